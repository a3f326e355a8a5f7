/- Layer 3: the reference's Runs. -/
import Derived.Test.YtedbhjladpfafaaRl
import Derived.Deep.RegionLaw
namespace Go.Proofs.Ytedbhjladpfafaa
open Go.RowKit
theorem listB_lt' {p : Nat → Bool} {i j x y : Nat} (hij : i < j) (hx : (listB p)[i]? = some x) (hy : (listB p)[j]? = some y) : x < y := by
  obtain ⟨h1, e1⟩ := List.getElem?_eq_some_iff.1 hx
  obtain ⟨h2, e2⟩ := List.getElem?_eq_some_iff.1 hy
  have := List.pairwise_iff_getElem.1 (listB_asc p) i j h1 h2 hij
  rw [e1, e2] at this
  exact this
theorem listB_at {p : Nat → Bool} {i x : Nat} (h : (listB p)[i]? = some x) : x < 256 ∧ p x = true := mem_listB.1 (List.mem_of_getElem? h)
theorem step_first {p : Nat → Bool} {x : Nat} (h : (listB p)[0]? = some x) : (decide (0 < x) && p (x - 1)) = false := by
  cases hc : (decide (0 < x) && p (x - 1))
  · rfl
  · simp only [Bool.and_eq_true, decide_eq_true_eq] at hc
    have hx := listB_at h
    obtain ⟨j, hj⟩ := List.mem_iff_getElem?.1 (mem_listB.2 ⟨by omega, hc.2⟩ : x - 1 ∈ listB p)
    rcases Nat.eq_zero_or_pos j with rfl | h0
    · rw [h] at hj; have := Option.some.inj hj; omega
    · have := listB_lt' h0 h hj; omega
theorem step_next {p : Nat → Bool} {k d x : Nat} (hd : (listB p)[k]? = some d) (hx : (listB p)[k + 1]? = some x) : (decide (0 < x) && p (x - 1)) = (d + 1 == x) := by
  have h1 := listB_lt' (Nat.lt_succ_self k) hd hx
  have h2 := listB_at hx
  rw [Bool.eq_iff_iff]
  simp only [Bool.and_eq_true, decide_eq_true_eq, beq_iff_eq]
  constructor
  · rintro ⟨h0, hp⟩
    obtain ⟨j, hj⟩ := List.mem_iff_getElem?.1 (mem_listB.2 ⟨by omega, hp⟩ : x - 1 ∈ listB p)
    rcases Nat.lt_trichotomy j k with h | rfl | h
    · have := listB_lt' h hj hd; omega
    · rw [hd] at hj; have := Option.some.inj hj; omega
    · rcases Nat.eq_or_lt_of_le h with rfl | h'
      · rw [show k.succ = k + 1 from rfl, hx] at hj; have := Option.some.inj hj; omega
      · have := listB_lt' h' hx hj; omega
  · rintro rfl
    exact ⟨by omega, (listB_at hd).2⟩
theorem runs_grow {p : Nat → Bool} {k x : Nat} (hx : (listB p)[k]? = some x) : runsOf p ((listB p).take (k + 1)) = stepR p (runsOf p ((listB p).take k)) x := by
  rw [List.take_add_one, hx]; exact runsOf_add _ _ _
theorem grow_first {p : Nat → Bool} {x : Nat} (h : (listB p)[0]? = some x) : runsOf p ((listB p).take (0 + 1)) = runsOf p ((listB p).take 0) ++ [(x, x)] := by
  rw [runs_grow h, stepR, step_first h]; rfl
theorem grow_far {p : Nat → Bool} {k d x : Nat} (hd : (listB p)[k]? = some d) (hx : (listB p)[k + 1]? = some x) (h : d + 1 ≠ x) : runsOf p ((listB p).take (k + 1 + 1)) = runsOf p ((listB p).take (k + 1)) ++ [(x, x)] := by
  rw [runs_grow hx, stepR, step_next hd hx, if_neg (by simp [h])]
theorem grow_near {p : Nat → Bool} {k d x : Nat} (hd : (listB p)[k]? = some d) (hx : (listB p)[k + 1]? = some x) (h : d + 1 = x) : ∃ qs a c, runsOf p ((listB p).take (k + 1)) = qs ++ [(a, c)] ∧ runsOf p ((listB p).take (k + 1 + 1)) = qs ++ [(a, x)] := by
  have hne : (listB p).take (k + 1) ≠ [] := by
    intro e
    have he := congrArg List.length e
    have hl := (List.getElem?_eq_some_iff.1 hx).1
    rw [List.length_take, List.length_nil] at he
    omega
  obtain ⟨qs, a, c, hq⟩ := runsOf_ne (p := p) hne
  refine ⟨qs, a, c, hq, ?_⟩
  rw [runs_grow hx, hq, stepR, step_next hd hx, if_pos (by simp [h])]
  simp
theorem app_below {B n size : Nat} {e : TypeId} {v : Value} {xs : List Value} {w X w' : World} {o : Obj} (hown : w.ownsRow B e size v n xs) (hB : B ≤ w.heap.size) (hX : Below w.heap.size w X) (h2 : (X.alloc o).grownBy w' v.ownBlock) : Below B w w' := by
  refine ((hX.mono hB).alloc (Nat.le_trans hB hX.size) o).grown h2 (by have := hX.size; simp; omega) ?_
  intro k hk
  rcases hown.2 with ⟨rfl, _⟩ | ⟨g, cap, cur, rfl, hg, _⟩
  · cases hk
  · simp [Value.ownBlock] at hk; omega
theorem below_drewN (w : World) (n : Nat) : Below w.heap.size w (w.drewN n) := by
  induction n with
  | zero => exact Below.refl _ _
  | succ n ih => exact ih.drew
theorem rr_close {W : World} {B m c : Nat} {v : Value} {xs ys : List (Nat × Nat)} (h : W.ownsRow B 47 2 v (m + 1) (xs.flatMap encR ++ [u8n c, u8n c])) (hr : ys = xs ++ [(c, c)]) (hm : m = xs.length) :
    m + 1 = ys.length ∧ W.ownsRow B 47 2 v (m + 1) (ys.flatMap encR) := by
  subst hr
  refine ⟨by simp [hm], ?_⟩
  rw [List.flatMap_append]; exact h
/-- What Runs of the reference returns. -/
def RrPost (w : World) (rs : List (Nat × Nat)) (e : Ending) (w' : World) : Prop := ∃ v, e = .returned v ∧ RR w' v rs ∧ Below w.heap.size w w'
theorem run_len (p : Nat → Bool) (k : Nat) : (runsOf p ((listB p).take k)).length ≤ 256 := by
  have h1 := runsOf_len p ((listB p).take k)
  have h2 := List.length_take_le k (listB p)
  have h3 := listB_len p
  rw [List.length_take] at h1
  omega
theorem two_new_at (w : World) (b : Nat) (hb : b = w.heap.size) (x : Value) (j : Nat) (u : Value) (h : [x, x][j]? = some u) : (w.alloc (.cells #[x, x] 47)).cell? ((⟨b, 0, none⟩ : Addr).add j) = some u := by
  subst hb; exact two_new_cells _ _ _ _ _ _ h
set_option maxHeartbeats 1600000 in
set_option maxRecDepth 100000 in
theorem rruns_any (p : Nat → Bool) (w : World) : Calls Try.prog 36 #[sv p] w (RrPost w (runsB p)) := by
  obtain ⟨i0, hi, hz0, hz1, hz2⟩ := info_parts info_r2
  have g1 := SA.new w p
  have RL := Lib.hid (fun w => rlist_any p w)
  go_enter Try.func36, Try.ntmps36
  go_wp2_with (first
    | (refine wpList_get rfl _ rfl _ rfl _ g1 ?_)
    | (go_at_call 33; refine (RL.out _).mono ?_; rintro e w2 ⟨v, rfl, hv, hb2⟩
       have B2 := ((Below.refl _ w).alloc (Nat.le_refl _) (setO p)).trans (hb2.mono (by simp))
       have HV := Lib.hid hv
       obtain ⟨pp, cc, rfl, hcc, _⟩ := hv
       clear hb2 g1))
  have n3 := listB_len p
  obtain ⟨n, hn⟩ : ∃ n, n = (listB p).length := ⟨_, rfl⟩
  have HN := Lib.hid hn
  rw [← hn] at n3 hcc ⊢
  have HB2 := Lib.hid B2
  clear hn B2
  go_loopw [3, 5] (fun v i wr => ∃ k m : Nat, k ≤ n ∧ i = .int .i64 (k : Int) ∧ m = (runsOf p ((listB p).take k)).length ∧ wr.ownsRow w2.heap.size 47 2 v m ((runsOf p ((listB p).take k)).flatMap encR) ∧ Below w2.heap.size w2 wr) (fun _ i _ => n - (intOf i).toNat)
  case atStart => exact ⟨0, 0, Nat.zero_le _, rfl, rfl, World.ownsRow_nil _ _ _ _, Below.refl _ _⟩
  case round =>
    obtain ⟨k, m, hk, rfl, hm, ho, hB⟩ := hrel
    have hml := run_len p k
    rw [← hm] at hml
    have hBs := hB.size
    by_cases hlt : k < n
    · have hltb : decide ((k : Int) < (n : Int)) = true := decide_eq_true (by omega)
      have hkn : (k : Int) < (n : Int) := by omega
      obtain ⟨c, hc⟩ : ∃ c, (listB p)[k]? = some c := ⟨_, List.getElem?_eq_getElem (by rw [← HN.out]; exact hlt)⟩
      obtain ⟨g, o, c', ev, hgw, hcells⟩ := HV.out.form (by rw [← HN.out]; omega)
      have hpp : pp = some ⟨g, o, none⟩ := by cases ev; rfl
      subst hpp
      obtain ⟨hc8, hcx⟩ := hcells k c hc
      have hck := (hB.cell (p := ⟨g, o + k, none⟩) hgw).trans hcx
      have hwn : IntKind.i64.wrap ((k : Int) + 1) = (k : Int) + 1 := IntWalk.i64_in _ (by omega)
      clear ev hcx
      have HB := Lib.hid hB
      have HM := Lib.hid hm
      clear hm
      obtain ⟨pv, cv, rfl⟩ := own_slice ho
      by_cases hk0 : k = 0
      · subst hk0
        have hck0 : wr.cell? ⟨g, o, none⟩ = some (.int .u8 (c : Int)) := hck
        have HR := Lib.hid (grow_first hc)
        clear hcells hc hB hck
        go_wp2
        go_quiet (fail)
        go_wp2
        go_region_law (refine step_append_own _ rfl _ _ 40 rfl w2.heap.size 47 i0 (.agg #[.int .u8 0, .int .u8 0]) 2 2 Try.underlying40 hi hz0 hz1 hz2 rfl (by decide) _ m _ rfl (ho.alloc _) ⟨wr.heap.size, 0, none⟩ 1 1 [.int .u8 (c : Int), .int .u8 (c : Int)] rfl rfl (two_new_at _ wr.heap.size (by simp) _) (by simp [Value.oneCell']) (by simp only [maxLen]; omega) (by omega) (by simp; omega) ?_; intro v' w4 hown' hgrow _)
        all_goals
          go_wp2
          go_roundw
          case rel => exact ⟨1, m + 1, by omega, rfl, (rr_close hown' HR.out HM.out).1, (rr_close hown' HR.out HM.out).2, HB.out.trans (app_below ho hBs (below_drewN _ _) hgrow)⟩
          case measure => simp [intOf]; omega
      · obtain ⟨j, hj⟩ : ∃ j, j + 1 = k := ⟨k - 1, by omega⟩
        obtain ⟨d, hd⟩ : ∃ d, (listB p)[j]? = some d := ⟨_, List.getElem?_eq_getElem (by rw [← HN.out]; omega)⟩
        have hdc := listB_lt' (Nat.lt_succ_self j) hd (by rw [Nat.succ_eq_add_one, hj]; exact hc)
        have hdk := (hB.cell (p := ⟨g, o + j, none⟩) hgw).trans (hcells j d hd).2
        have hgt : decide ((0 : Int) < (k : Int)) = true := decide_eq_true (by omega)
        have hgk : 0 < k := by omega
        have hw4 : IntKind.i64.wrap ((k : Int) - 1) = (j : Int) := by rw [IntWalk.i64_in _ (by omega)]; omega
        have hjn : (j : Int) < (n : Int) := by omega
        have hu8 : IntKind.u8.wrap ((d : Int) + 1) = (d : Int) + 1 := by rw [IntKind.wrap_u8]; omega
        by_cases he : d + 1 = c
        · obtain ⟨qs, a, e, hq1, hq2⟩ := grow_near hd (by rw [hj]; exact hc) he
          rw [hj] at hq1 hq2
          have HR := Lib.hid hq2
          have hmq := HM.out
          rw [hq1] at ho hmq
          rw [show (qs ++ [(a, e)]).length = qs.length + 1 by simp] at hmq
          obtain ⟨g', cap, ev⟩ : ∃ g' cap, Value.slice pv m cv = .slice (some ⟨g', 0, none⟩) m cap := by
            rw [hmq] at ho ⊢
            exact ownsRow_succ ho
          obtain ⟨rfl, rfl⟩ : pv = some ⟨g', 0, none⟩ ∧ cv = cap := by cases ev; exact ⟨rfl, rfl⟩
          have hcst := flat_get (qs ++ [(a, e)]) qs.length (a, e) (by simp)
          have hc3 := (World.ownsRow.cellAt ho (qs.length * 2 + 1) (by omega)).trans hcst.2
          have hf3 := World.ownsRow.frozenAt ho (qs.length * 2 + 1)
          have so := World.ownsRow.stored ho (qs.length * 2 + 1) (u8n c)
          rw [flat_set] at so
          have hml2 : m = (qs ++ [(a, c)]).length := by simp [hmq]
          have HML := Lib.hid hml2
          obtain ⟨q, hq⟩ : ∃ q, q = qs.length := ⟨_, rfl⟩
          rw [← hq] at hc3 hf3 so hmq
          have hg0 := World.ownsRow.lt ho g' rfl
          have hwm : IntKind.i64.wrap ((m : Int) - 1) = (q : Int) := by rw [IntWalk.i64_in _ (by omega)]; omega
          have hei : ((c : Int) == (d : Int) + 1) = true := beq_iff_eq.2 (by omega)
          have hlm : (q : Int) < (m : Int) := by omega
          have hlmn : q < m := by omega
          have HSO := Lib.hid so
          clear hq1 hq2 hcells hc hd hB hdc ev so ho hcst hj hml2 hmq hq HM
          go_wp2
          go_quiet (fail)
          go_wp2
          generalize hX : World.drewN wr _ = X
          have hckX : X.cell? ⟨g, o + k, none⟩ = some (.int .u8 (c : Int)) := by rw [← hX]; exact hck
          have hc3X : X.cell? ⟨g', q * 2 + 1, none⟩ = some (u8n e) := by rw [← hX]; exact hc3
          have hf3X := hf3
          rw [show wr.frozen? = X.frozen? by rw [← hX]; rfl] at hf3X
          refine wp_region_still_tail 10 (by kernel_rfl) (by kernel_rfl) ?_
          simp only [List.take_succ_cons, List.take_zero, List.drop_succ_cons, List.drop_zero]
          repeat (first | still_step | still_call (fail))
          refine wpStill_nil ?_
          go_wp2
          go_roundw
          case rel => exact ⟨k + 1, m, by omega, by go_num, by rw [HR.out]; exact HML.out, by rw [HR.out, ← hX]; exact HSO.out.1, by rw [← hX]; exact HB.out.trans ((below_drewN wr _).mono hBs |>.setCell (p := ⟨g', q * 2 + 1, none⟩) hg0.1 _).drew⟩
          case measure => simp [intOf]; omega
        · have HR := Lib.hid (show runsOf p ((listB p).take (k + 1)) = runsOf p ((listB p).take k) ++ [(c, c)] by have := grow_far hd (by rw [hj]; exact hc) he; rw [hj] at this; exact this)
          have hei : ((c : Int) == (d : Int) + 1) = false := beq_eq_false_iff_ne.2 (by omega)
          clear hcells hc hd hB hdc hj
          go_wp2
          go_quiet (fail)
          go_wp2
          go_region_law (refine step_append_own _ rfl _ _ 40 rfl w2.heap.size 47 i0 (.agg #[.int .u8 0, .int .u8 0]) 2 2 Try.underlying40 hi hz0 hz1 hz2 rfl (by decide) _ m _ rfl (ho.alloc _) ⟨wr.heap.size, 0, none⟩ 1 1 [.int .u8 (c : Int), .int .u8 (c : Int)] rfl rfl (two_new_at _ wr.heap.size (by simp) _) (by simp [Value.oneCell']) (by simp only [maxLen]; omega) (by omega) (by simp; omega) ?_; intro v' w4 hown' hgrow _)
          all_goals
            go_wp2
            go_roundw
            case rel => exact ⟨k + 1, m + 1, by omega, by go_num, (rr_close hown' HR.out HM.out).1, (rr_close hown' HR.out HM.out).2, HB.out.trans (app_below ho hBs (below_drewN _ _) hgrow)⟩
            case measure => simp [intOf]; omega
    · obtain rfl : k = n := by omega
      have hltb : decide ((k : Int) < (k : Int)) = false := decide_eq_false (by omega)
      have hr : runsOf p ((listB p).take k) = runsB p := by rw [HN.out, List.take_length]; rfl
      rw [hr] at hm ho
      have HO := Lib.hid ho
      have HB := Lib.hid hB
      clear hB
      go_wp2
      go_ret
      subst hm
      exact ⟨_, rfl, RR.own HO.out, HB2.out.trans (HB.out.mono HB2.out.size)⟩
end Go.Proofs.Ytedbhjladpfafaa
