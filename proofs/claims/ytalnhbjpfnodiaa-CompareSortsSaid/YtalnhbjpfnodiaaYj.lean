/- Sort of the program. -/
import Derived.Test.YtalnhbjpfnodiaaYi
import Derived.BigRegionIn
namespace Go.Proofs.Ytalnhbjpfnodiaa
open Go.RowKit Go.Shelf
attribute [local go_sem] Oper.semAt_some
theorem results_one {fn : Func} {t : Tmp} (h : fn.results = #[.tmp t]) (tmps : Array Value) (w : World) : (results fn tmps).run Try.prog w = .ok (tmps.getD t undef) w := results_tmp h tmps _ w
/-- Where two neighbours of a table lie. -/
theorem so_place {M j n a i : Nat} (h : a + M * j ≤ n) (hi : i + 1 < M) : a + i * j + j ≤ n ∧ a + (i + 1) * j + j ≤ n ∧ (i + 1) * j = i * j + j ∧ i * j ≤ M * j ∧ (i + 1) * j ≤ M * j := by
  have h1 : (i + 2) * j ≤ M * j := Nat.mul_le_mul_right j (by omega)
  have h2 : (i + 2) * j = (i + 1) * j + j := Nat.succ_mul (i + 1) j
  have h3 : (i + 1) * j = i * j + j := Nat.succ_mul i j
  omega
theorem so_room {M j t : Nat} {d r : List Nat} {i : Nat} (h : t + (4 * j + 2) * (netK (M - 1)).length ≤ 8388608) (hd : netK (M - 1) = d ++ i :: r) : t + (4 * j + 2) * d.length + (4 * j + 2) ≤ 8388608 := by
  have h1 : d.length + 1 ≤ (netK (M - 1)).length := by rw [hd]; simp
  have h2 : (4 * j + 2) * (d.length + 1) ≤ (4 * j + 2) * (netK (M - 1)).length := Nat.mul_le_mul_left _ h1
  rw [Nat.mul_add] at h2
  omega
section
variable {w w' : World} {F : Nat → Prop} {p : Nat} {cs c' : List Nat} {rs : List Rg} {tr t' : List (Nat × Nat)}
set_option maxRecDepth 100000 in
set_option maxHeartbeats 3200000 in
theorem Sort_any (h : Ar w F p cs rs tr) (x m k : Int) (hx : i64R x) : Calls Try.prog 29 #[.pointer (some ⟨p, 0, none⟩), .int .i64 x, .int .i64 m, .int .i64 k] w (AcP w F p cs rs tr (soE cs.length tr.length x m k) (soC x.toNat k.toNat (netK (m.toNat - 1)) cs) (soT x.toNat k.toNat (netK (m.toNat - 1)))) := by
  have hn : cs.length ≤ 65536 := by obtain ⟨_, _, _, _, hx⟩ := h; exact hx.ncs.2
  obtain ⟨w3, hw3⟩ : ∃ W, W = ((w.alloc (.cells #[.pointer (some ⟨p, 0, none⟩)] 30)).alloc (.cells #[.int .i64 x] 3)).alloc (.cells #[.int .i64 k] 3) := ⟨_, rfl⟩
  obtain ⟨hs3, hb3, b0, b1, b2⟩ := so3 w w3 p x k hw3
  have HW3 := Lib.hid hw3
  have h3 := h.below hb3
  have c0 := b0.cell
  have c1 := b1.cell
  have c2 := b2.cell
  have HB3 := Lib.hid hb3
  have IT := Lib.hid (fun w => istable_any m k w)
  obtain ⟨E, hE⟩ : ∃ E, E = soE cs.length tr.length x m k := ⟨_, rfl⟩
  have hE1 : E = if isT m k then (if hasE cs.length x (m * k) = 0 then roomE tr.length (((4 * k.toNat + 2) * (netK (m.toNat - 1)).length : Nat) : Int) else hasE cs.length x (m * k)) else 7 := hE
  rw [← hE]
  by_cases hT : isT m k
  case neg =>
    rw [if_neg hT] at hE1
    rw [hE1]
    rw [decide_eq_false hT] at IT
    clear hE hE1 hT hx hn hs3 hb3 b0 b1 b2 h3
    go_enter Try.func29, Try.ntmps29
    go_wp2_with (first
      | (go_at_call 58; rw [← HW3.out]; clear hw3; (with_reducible refine (IT.out _).mono ?_); rintro e w' ⟨rfl, rfl⟩))
    go_ret
    exact AcP.no (by decide) h HB3.out
  case pos =>
    rw [if_pos hT] at hE1
    rw [decide_eq_true hT] at IT
    obtain ⟨hm1, hm2, hk1, hmk⟩ := hT
    obtain ⟨M, rfl⟩ : ∃ M : Nat, m = M := ⟨m.toNat, by omega⟩
    obtain ⟨j, rfl⟩ : ∃ j : Nat, k = j := ⟨k.toNat, by omega⟩
    simp only [Int.toNat_natCast] at hE1 ⊢
    obtain ⟨mj, hmj⟩ : ∃ z, z = M * j := ⟨_, rfl⟩
    have e0 : ((M : Int) * (j : Int)) = (mj : Int) := by rw [hmj]; simp
    rw [e0] at hmk hE1
    have e1 : IntKind.i64.wrap ((M : Int) * (j : Int)) = (mj : Int) := by rw [e0, IntKind.wrap_i64]; omega
    have HA := Lib.hid (ar_has h3 x (mj : Int) hx)
    obtain ⟨E0, hE0⟩ : ∃ E0, E0 = hasE cs.length x (mj : Int) := ⟨_, rfl⟩
    rw [← hE0] at hE1 HA
    by_cases h0 : E0 = 0
    case neg =>
      rw [if_neg h0] at hE1
      rw [hE1]
      have t2 : (E0 != 0) = true := by rw [bne_iff_ne]; exact h0
      have H0 := Lib.hid h0
      clear hE hE0 hE1 h0 hx hn hs3 hb3 b0 b1 b2 h3 hm1 hm2 hk1 hmk hmj e0
      go_enter Try.func29, Try.ntmps29
      go_wp2_with (first
        | (go_at_call 58; rw [← HW3.out]; clear hw3; (with_reducible refine (IT.out _).mono ?_); rintro e w' ⟨rfl, rfl⟩)
        | (go_at_call 59; (with_reducible refine (HA.out).mono ?_); rintro e w' ⟨rfl, rfl⟩))
      go_ret
      exact AcP.no H0.out h HB3.out
    case pos =>
      rw [if_pos h0] at hE1
      subst h0
      have hjj : j ≤ 64 := by
        have : 1 * j ≤ M * j := Nat.mul_le_mul_right j (by omega)
        omega
      obtain ⟨L, hL⟩ : ∃ L, L = (netK (M - 1)).length := ⟨_, rfl⟩
      have hL2 : 2 * L = M * (M - 1) := by
        have := netK_len (M - 1)
        rw [hL, this, Nat.mul_comm, show M - 1 + 1 = M by omega]
      have hL3 : M * (M - 1) ≤ 16 * 15 := Nat.mul_le_mul (by omega) (by omega)
      obtain ⟨mm, hmm⟩ : ∃ z, z = M * (M - 1) := ⟨_, rfl⟩
      have e2 : IntKind.i64.wrap ((M : Int) - 1) = ((M - 1 : Nat) : Int) := by rw [IntKind.wrap_i64]; omega
      have e3' : ((M : Int) * ((M - 1 : Nat) : Int)) = (mm : Int) := by rw [hmm]; simp
      have e3 : IntKind.i64.wrap ((M : Int) * ((M - 1 : Nat) : Int)) = (mm : Int) := by rw [e3', IntKind.wrap_i64]; omega
      have e4 : (mm : Int).tdiv 2 = (L : Int) := by rw [Int.tdiv_eq_ediv_of_nonneg (by omega)]; omega
      have e4' : (mm : Int) / 2 = (L : Int) := by omega
      have e6 : IntKind.i64.wrap (L : Int) = (L : Int) := by rw [IntKind.wrap_i64]; omega
      obtain ⟨s6, hs6⟩ : ∃ z, z = 4 * j + 2 := ⟨_, rfl⟩
      obtain ⟨s4, hs4⟩ : ∃ z, z = 4 * j := ⟨_, rfl⟩
      have XS := Lib.hid (fun w => less_flip (xsteps_any j s4 (s6 : Int) w (by rw [hs4, IntKind.wrap_i64]; omega) (by rw [hs4, hs6, IntKind.wrap_i64]; omega)))
      obtain ⟨sl, hsl⟩ : ∃ z, z = s6 * L := ⟨_, rfl⟩
      have hslb : s6 * L ≤ 258 * 120 := Nat.mul_le_mul (by omega) (by omega)
      have e5' : ((L : Int) * (s6 : Int)) = (sl : Int) := by rw [hsl, Nat.mul_comm]; simp
      have e5 : IntKind.i64.wrap ((L : Int) * (s6 : Int)) = (sl : Int) := by rw [e5', IntKind.wrap_i64]; omega
      rw [← hL, ← hs6, ← hsl] at hE1
      have RO := Lib.hid (fun n => less_flip (ar_room (h3.below (below_drewN (Below.refl _ w3) n)) (sl : Int)))
      rw [← hE1] at RO
      obtain ⟨M1, hM1⟩ : ∃ z, z = M - 1 := ⟨_, rfl⟩
      rw [← hM1] at e2 e3
      by_cases h1 : E = 0
      case neg =>
        have t2 : (E != 0) = true := by rw [bne_iff_ne]; exact h1
        have H0 := Lib.hid h1
        clear hE hE0 hE1 hx hn hs3 hb3 b0 b1 b2 h3 hm1 hm2 hk1 hmk hmj e0 h1 hjj hL hL2 hL3 hmm e3' hs6 hs4 hsl hslb e5' hM1
        go_enter Try.func29, Try.ntmps29
        go_wp2_with (first
          | (go_at_call 58; rw [← HW3.out]; clear hw3; (with_reducible refine (IT.out _).mono ?_); rintro e w' ⟨rfl, rfl⟩)
          | (go_at_call 59; (with_reducible refine (HA.out).mono ?_); rintro e w' ⟨rfl, rfl⟩))
        go_quiet (first
          | (go_at_call 56; with_reducible exact Calls.quiet_of_same (XS.out _))
          | (go_at_call 55; with_reducible exact Calls.quiet_of_same (RO.out _)))
        go_wp2
        go_ret
        exact AcP.no H0.out h (HB3.out.trans ((below_drewN (Below.refl _ w3) _).mono HB3.out.size))
      case pos =>
        obtain ⟨M', hM', _, _, j', hj', hj1, _, a, ha0, ha, hl⟩ := soE_zero (hE.symm.trans h1)
        obtain rfl : M = M' := by omega
        obtain rfl : j = j' := by omega
        subst ha0
        subst h1
        simp only [Int.toNat_natCast]
        have hM1b : 1 ≤ M := by omega
        have hM2b : M ≤ 16 := by omega
        have CI := Lib.hid (fun w => (callsIn_wide (n := 4)).2 (IT.out w))
        have CH := Lib.hid ((callsIn_wide (n := 4)).2 HA.out)
        have CN := Lib.hid (fun w => (callsIn_wide (n := 4)).2 (network_any (M : Int) w))
        have AA := Lib.hid (And.intro ha (And.intro hl (And.intro hj1 (And.intro hjj (And.intro hM1b (And.intro hM2b hn))))))
        have BB := Lib.hid (And.intro b0 (And.intro b1 (And.intro b2 hs3)))
        have WC := Lib.hid h.wcs
        clear hE hE0 hE1 hx hn hs3 hb3 b0 b1 b2 h3 hm1 hm2 hk1 hmk hmj e0 hjj hL hL2 hL3 hmm e3' hs6 hs4 hsl hslb e5' hM1 hM' hj' ha hl hj1 hM1b hM2b IT HA
        refine (callsIn_wide (n := 5)).1 ?_
        refine callsIn_of_wp_marks Try.func29 rfl trivial ?_ rfl
        simp only [Try.ntmps29, List.size_toArray, List.length_cons, List.length_nil, Nat.reduceAdd, Nat.reduceSub, Array.replicate_succ, Array.replicate_zero, List.push_toArray, List.append_toArray, List.nil_append, List.cons_append]
        gi_wp2_with (first
          | (refine ⟨trivial, ?_⟩; gi_at_call 58; rw [← HW3.out]; clear hw3; (with_reducible refine (CI.out _).mono ?_); rintro e w' ⟨rfl, rfl⟩)
          | (refine ⟨trivial, ?_⟩; gi_at_call 59; (with_reducible refine (CH.out).mono ?_); rintro e w' ⟨rfl, rfl⟩))
        refine wpIn_wide.2 ?_
        go_quiet (first
          | (go_at_call 56; with_reducible exact Calls.quiet_of_same (XS.out _))
          | (go_at_call 55; with_reducible exact Calls.quiet_of_same (RO.out _)))
        gi_wp2_with (first
          | (refine ⟨trivial, ?_⟩; gi_at_call 60; (with_reducible refine (CN.out _).mono ?_); rintro e w' ⟨rfl, rfl⟩))
        clear CI CH CN c0 c1 c2 RO XS e1 e2 e3 e4 e4' e5 e6
        obtain ⟨b0, b1, b2, hs3⟩ := BB.out
        obtain ⟨s, hs⟩ : ∃ s, s = w.heap.size := ⟨_, rfl⟩
        obtain ⟨w4, hw4⟩ : ∃ W, W = (w3.drewN nq).alloc (.cells #[.int .i64 (M : Int)] 3) := ⟨_, rfl⟩
        rw [← hw4]
        have hsd : (w3.drewN nq).heap.size = w3.heap.size := rfl
        have hs4 : w4.heap.size = s + 4 := by rw [hw4, World.size_alloc, hsd, hs3, hs]
        have hb4 : Below w3.heap.size w3 w4 := by rw [hw4]; exact (below_drewN (Below.refl _ w3) nq).alloc (Nat.le_refl _) _
        have hb3 := HB3.out
        have d0 : Boxed w4 s 30 (.pointer (some ⟨p, 0, none⟩)) := by rw [hs]; exact (hb4.block _ (by omega)).trans b0
        have d1 : Boxed w4 (s + 1) 3 (.int .i64 (a : Int)) := by rw [hs]; exact (hb4.block _ (by omega)).trans b1
        have d2 : Boxed w4 (s + 2) 3 (.int .i64 (j : Int)) := by rw [hs]; exact (hb4.block _ (by omega)).trans b2
        have d3 : Boxed w4 (s + 3) 3 (.int .i64 (M : Int)) := by
          have := Boxed.new (w3.drewN nq) 3 (.int .i64 (M : Int))
          rw [hsd, hs3, ← hs] at this
          rw [hw4]; exact this
        have hbw : Below w.heap.size w w4 := hb3.trans (hb4.mono (by omega))
        rw [show w3.heap.size = s + 3 by omega, ← hs]
        have D0 := Lib.hid (And.intro d0 (And.intro d1 (And.intro d2 d3)))
        have DB := Lib.hid hbw
        have HS := Lib.hid hs
        clear d0 d1 d2 d3 hw4 hsd hb4 hb3 b0 b1 b2 hs3 hbw BB HW3 HB3
        refine RY.rangeY rfl (by omega) (gf := 78) (lb := #[.pointer (some ⟨s + 3, 0, none⟩)]) rfl trivial (enters_of Try.func78 (by kernel_rfl) rfl)
          (fun W => Bs w F (soX s) p (soC a j (netK (M - 1)) cs) rs (tr ++ soT a j (netK (M - 1))) W ∧ ∃ ob, SoB s p a j M ob W) ?seq ?done
        case seq =>
          intro ob hoc hT hround
          rw [hs4] at hT hround ⊢
          obtain ⟨ha, hl, hj1, hjj, hM1b, hM2b, hn⟩ := AA.out
          refine (network_iter (m := 4) (B := s + 3) (M := M) (by omega) (fun d W => Bs w F (soX s) p (soC a j d cs) rs (tr ++ soT a j d) W ∧ SoB s p a j M ob W) hM1b hM2b ?_ ?_ ?_).mono ?_
          · intro d W hI
            exact hI.2.mb.cell
          · rintro d i r W hd ⟨hB, hC⟩
            refine yield_mono (hround #[.int .i64 (i : Int), .int .i64 ((i : Int) + 1)] W (fun W' => Bs w F (soX s) p (soC a j (d ++ [i]) cs) rs (tr ++ soT a j (d ++ [i])) W' ∧ ∃ ob', SoB s p a j M ob' W') hC.two rfl ?_) ?_
            · rw [show (#[41, 42] : Array Tmp).zip (#[.int .i64 (i : Int), .int .i64 ((i : Int) + 1)] : Array Value) = #[(41, .int .i64 (i : Int)), (42, .int .i64 ((i : Int) + 1))] from by simp]
              have hi : i < M - 1 := netK_lt _ i (by rw [hd]; simp)
              obtain ⟨q1, q2, q3, q4, q5⟩ := so_place ha (show i + 1 < M by omega)
              have q6 := so_room hl hd
              have HTW := Lib.hid hC.two
              have hl2 : (soC a j d cs).length = cs.length := soC_len ..
              have EX := Lib.hid (fun W (hB : Bs w F (soX s) p (soC a j d cs) rs (tr ++ soT a j d) W) => CallsIn.inRound (s + 4 + 1) ((callsIn_wide (n := 2)).2 (bs_act hB (fun G ar => cex_any ar (a + i * j) (a + (i + 1) * j) j hj1 hjj (by rw [hl2]; exact q1) (by rw [hl2]; exact q2) (.inl (by omega)) (by rw [List.length_append, soT_len]; omega)))))
              have c1 : soC a j (d ++ [i]) cs = exC (a + i * j) (a + (i + 1) * j) j (soC a j d cs) := soC_snoc ..
              have c2 : tr ++ soT a j (d ++ [i]) = tr ++ soT a j d ++ exT (a + i * j) (a + (i + 1) * j) j := by rw [soT_snoc, List.append_assoc]
              rw [c1, c2]
              clear c1 c2
              obtain ⟨ij, hij⟩ : ∃ z, z = i * j := ⟨_, rfl⟩
              obtain ⟨ik, hik⟩ : ∃ z, z = (i + 1) * j := ⟨_, rfl⟩
              have e1' : ((i : Int) * (j : Int)) = (ij : Int) := by rw [hij]; simp
              have e1 : IntKind.i64.wrap ((i : Int) * (j : Int)) = (ij : Int) := by rw [e1', IntKind.wrap_i64]; omega
              have e2' : (((i : Int) + 1) * (j : Int)) = (ik : Int) := by rw [hik]; simp
              have e2 : IntKind.i64.wrap (((i : Int) + 1) * (j : Int)) = (ik : Int) := by rw [e2', IntKind.wrap_i64]; omega
              rw [← hij, ← hik] at EX
              rw [← hij, ← hik]
              obtain ⟨ai, hai⟩ : ∃ z, z = a + ij := ⟨_, rfl⟩
              obtain ⟨ak, hak⟩ : ∃ z, z = a + ik := ⟨_, rfl⟩
              have e3 : IntKind.i64.wrap ((a : Int) + (ij : Int)) = (ai : Int) := by rw [hai, IntKind.wrap_i64]; omega
              have e4 : IntKind.i64.wrap ((a : Int) + (ik : Int)) = (ak : Int) := by rw [hak, IntKind.wrap_i64]; omega
              rw [← hai, ← hak] at EX
              rw [← hai, ← hak]
              have HB := Lib.hid hB
              have HCC := Lib.hid hC
              clear hB hC hround hT ha hl hj1 hjj hM1b hM2b hn hd hi q1 q2 q3 q4 q5 q6 hl2 hij hik e1' e2' hai hak hs hs4
              gi_wp2
              refine ⟨HTW.out, fun r' => ?_⟩
              obtain ⟨W2, hW2⟩ : ∃ X, X = W.putObj (s + 4 + 1) (.loop r') := ⟨_, rfl⟩
              rw [← hW2]
              have hS := HS.out
              have HB2 := Lib.hid (show Bs w F (soX s) p (soC a j d cs) rs (tr ++ soT a j d) W2 by rw [hW2]; exact HB.out.loop (s + 5) ⟨⟨by omega, by omega⟩, by omega⟩ (.loop r'))
              have hC2 : SoB s p a j M (.loop r') W2 := by rw [hW2]; exact HCC.out.loop (.loop r')
              have HC2 := Lib.hid hC2
              clear hW2 hS
              have c0 := hC2.pb.cell
              have c1 := hC2.xb.cell
              have c2 := hC2.nb.cell
              clear hC2
              gi_wp2_with (first
                | (gi_at_call 57; (with_reducible refine (EX.out _ HB2.out).mono ?_); rintro e W3 ⟨rfl, hB3, hX⟩; have HB3 := Lib.hid hB3; have HC3 := Lib.hid (HC2.out.to hX); clear hB3 hX)
                | (refine ⟨trivial, ?_⟩; gi_at_call 57; (with_reducible refine (EX.out _ HB2.out).mono ?_); rintro e W3 ⟨rfl, hB3, hX⟩; have HB3 := Lib.hid hB3; have HC3 := Lib.hid (HC2.out.to hX); clear hB3 hX))
              have hS := HS.out
              exact ⟨rfl, HC3.out.two, fun r'' => ⟨HB3.out.loop _ ⟨⟨by omega, by omega⟩, by omega⟩ _, _, HC3.out.loop _⟩⟩
            · rintro e W' ⟨rfl, ht, hB', ob', hC'⟩
              exact ⟨rfl, hB', hC'.pb, hC'.xb, hC'.nb, hC'.mb, ht⟩
          · refine ⟨?_, ?_⟩
            · have h4 := (Bs.start h).beside (W' := (w4.alloc (.deferred (some []))).alloc ob) (X' := soX s) (((DB.out).alloc (Nat.le_trans (by omega) (Nat.le_refl _)) _).alloc (by simp; omega) _) fun k hk => ⟨by simp; omega, .inr (by omega)⟩
              rw [show soC a j [] cs = cs from rfl, show tr ++ soT a j [] = tr from List.append_nil _]
              exact h4
            · obtain ⟨d0, d1, d2, d3⟩ := D0.out
              exact ⟨(d0.alloc _).alloc _, (d1.alloc _).alloc _, (d2.alloc _).alloc _, (d3.alloc _).alloc _, hT⟩
          · rintro e W' ⟨hv', hB, hC⟩
            exact ⟨hv', hC.two, fun r' => ⟨hB.loop _ ⟨⟨by omega, by omega⟩, by omega⟩ _, _, hC.loop _⟩⟩
        case done =>
          intro W hD ⟨hB, ob, hC⟩
          rw [hs4] at hD ⊢
          have hS := HS.out
          have HF := Lib.hid (hB.put (W' := W.putObj (s + 4) (.deferred none)) (kept_put _ (s + 4) _) fun k hk => by
            subst hk; exact ⟨⟨by omega, by omega⟩, by omega⟩)
          have HD := Lib.hid hD
          clear hs hs4 hB hC hS hD
          gi_wp2
          refine ⟨by simp, .inl ⟨_, _, rfl, run_takeDeferred HD.out, _, results_one rfl _ _, AcP.ok HF.out.done⟩⟩
end
end Go.Proofs.Ytalnhbjpfnodiaa
