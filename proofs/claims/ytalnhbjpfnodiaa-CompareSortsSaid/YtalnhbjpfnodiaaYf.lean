/- compareRows. -/
import Derived.Test.YtalnhbjpfnodiaaYe
import Derived.BigRegionIn
namespace Go.Proofs.Ytalnhbjpfnodiaa
open Go.RowKit Go.Shelf
attribute [local go_sem] Oper.semAt_some
theorem less_flip {f : Nat} {args : Array Value} {w : World} {r : Ending} (h : Calls Try.prog f args w fun e w' => e = r ∧ w = w') : Calls Try.prog f args w fun e w' => e = r ∧ w' = w := h.mono fun _ _ ⟨a, b⟩ => ⟨a, b.symm⟩
section
variable {w w' : World} {F : Nat → Prop} {p : Nat} {cs c' : List Nat} {rs : List Rg} {tr t' : List (Nat × Nat)}
/-- What is there behind k rounds. -/
def CmI (w : World) (F : Nat → Prop) (p a b n : Nat) (cs : List Nat) (rs : List Rg) (tr : List (Nat × Nat)) (u v : Nat → Nat) (ob : Obj) (t : Nat → List (Nat × Nat)) (k : Nat) (W : World) : Prop :=
  Bs w F (cmX w.heap.size) p cs rs (tr ++ t k) W ∧ CmB w.heap.size p a b n (ordS u v k) ob W
/-- The two worlds ahead of the rounds. -/
def cm2 (w : World) (s l : Nat) : World := (w.alloc (.cells #[.int .u64 (s : Int)] 22)).alloc (.cells #[.int .u64 (l : Int)] 22)
set_option maxRecDepth 100000 in
set_option maxHeartbeats 3200000 in
theorem cmp_any (h : Ar w F p cs rs tr) (x y k : Int) (hx : i64R x) (hy : i64R y) : Calls Try.prog 51 #[.pointer (some ⟨p, 0, none⟩), .int .i64 x, .int .i64 y, .int .i64 k] w (CmP w F p cs rs tr (eqO (cmO cs x y k)) (ltO (cmO cs x y k)) (cmE cs.length tr.length x y k) (cmT x.toNat y.toNat k.toNat)) := by
  have hn : cs.length ≤ 65536 := by obtain ⟨_, _, _, _, hx⟩ := h; exact hx.ncs.2
  obtain ⟨w2, hw2⟩ : ∃ W, W = (w.alloc (.cells #[.int .u64 0] 22)).alloc (.cells #[.int .u64 0] 22) := ⟨_, rfl⟩
  have hb2 : Below w.heap.size w w2 := by rw [hw2]; exact ((Below.refl _ w).alloc (Nat.le_refl _) _).alloc (by simp) _
  have hs2 : w2.heap.size = w.heap.size + 2 := by rw [hw2]; simp
  have b0 : Boxed w2 w.heap.size 22 (.int .u64 0) := by rw [hw2]; exact (Boxed.new w _ _).alloc _
  have b1 : Boxed w2 (w.heap.size + 1) 22 (.int .u64 0) := by
    have := Boxed.new (w.alloc (.cells #[.int .u64 0] 22)) 22 (.int .u64 0)
    rw [World.size_alloc] at this
    rw [hw2]; exact this
  have h2 := h.below hb2
  have HW2 := Lib.hid hw2
  have CK := Lib.hid (ckr_any (.pointer (some ⟨p, 0, none⟩)) (fun v => hasE cs.length v k) x y k w2 hx hy (fun _ v hv => ar_has h2 v k hv))
  have RO := Lib.hid (ar_room h2 (2 * k))
  obtain ⟨E0, hE0⟩ : ∃ E0, E0 = ckQ (fun v => hasE cs.length v k) x y k := ⟨_, rfl⟩
  obtain ⟨E, hE⟩ : ∃ E, E = cmE cs.length tr.length x y k := ⟨_, rfl⟩
  rw [← hE0] at CK
  rw [← hE]
  have hE1 : E = if E0 = 0 then roomE tr.length (2 * k) else E0 := by rw [hE, hE0]; rfl
  have PUT0 := Lib.hid (show Below w.heap.size w ((w2.setCell ⟨w.heap.size, 0, none⟩ (.int .u64 0)).setCell ⟨w.heap.size + 1, 0, none⟩ (.int .u64 0)) from (hb2.setCell (p := ⟨w.heap.size, 0, none⟩) (Nat.le_refl _) _).setCell (p := ⟨w.heap.size + 1, 0, none⟩) (by simp) _)
  have R0 := Lib.hid ((b0.set (.int .u64 0)).other (B' := w.heap.size + 1) (by omega) (.int .u64 0)).cell
  have R1 := Lib.hid ((b1.other (B' := w.heap.size) (by omega) (.int .u64 0)).set (.int .u64 0)).cell
  have c0 := b0.cell
  have c1 := b1.cell
  have f0 := b0.frozen
  have f1 := (b1.other (B' := w.heap.size) (by omega) (.int .u64 0)).frozen
  by_cases h0 : E0 = 0
  case neg =>
    rw [if_neg h0] at hE1
    subst hE1
    have t2 : (E != 0) = true := by rw [bne_iff_ne]; exact h0
    have H0 := Lib.hid h0
    clear hE hE0 h0 hx hy hn hw2 hs2 h2 hb2 b0 b1 RO
    go_enter Try.func51, Try.ntmps51
    go_wp2_with (first
      | (go_at_call 53; rw [← HW2.out]; (with_reducible refine (CK.out).mono ?_); rintro e w' ⟨rfl, rfl⟩))
    refine bodyPost_ret (results_cct rfl _ _ rfl rfl R0.out R1.out) rfl ?_
    refine ⟨by rw [if_neg H0.out, if_neg H0.out]; rfl, ?_⟩
    rw [if_neg H0.out]
    exact .stay h PUT0.out
  case pos =>
    obtain ⟨j, hj, hj1, hj2, a, ha0, ha, b, hb0, hb⟩ := ckQ_zero (hE0.symm.trans h0)
    rw [if_pos h0] at hE1
    subst h0; subst hj; subst ha0; subst hb0
    rw [← hE1] at RO
    obtain ⟨s4, hs4⟩ : ∃ s, s = 2 * (j : Int) := ⟨_, rfl⟩
    have e1 : IntKind.i64.wrap (2 * (j : Int)) = s4 := by rw [hs4, IntKind.wrap_i64]; omega
    rw [← hs4] at RO
    by_cases h1 : E = 0
    case neg =>
      have t2 : (E != 0) = true := by rw [bne_iff_ne]; exact h1
      have H0 := Lib.hid h1
      clear hE hE0 hE1 h1 hx hy hn hw2 hs2 h2 hb2 b0 b1 hs4 ha hb hj1 hj2
      go_enter Try.func51, Try.ntmps51
      go_wp2_with (first
        | (go_at_call 53; rw [← HW2.out]; (with_reducible refine (CK.out).mono ?_); rintro e w' ⟨rfl, rfl⟩)
        | (go_at_call 55; (with_reducible refine (RO.out).mono ?_); rintro e w' ⟨rfl, rfl⟩))
      refine bodyPost_ret (results_cct rfl _ _ rfl rfl R0.out R1.out) rfl ?_
      refine ⟨by rw [if_neg H0.out, if_neg H0.out]; rfl, ?_⟩
      rw [if_neg H0.out]
      exact .stay h PUT0.out
    case pos =>
      obtain ⟨j', hj', _, _, a', ha', _, b', hb', _, hl⟩ := cmE_zero (hE.symm.trans h1)
      obtain rfl : j = j' := by omega
      obtain rfl : a = a' := by omega
      obtain rfl : b = b' := by omega
      subst h1
      unfold CmP
      rw [if_pos rfl, if_pos rfl, if_pos rfl]
      unfold cmO
      simp only [Int.toNat_natCast]
      obtain ⟨u, hu⟩ : ∃ u : Nat → Nat, u = fun i => cs.getD (a + i) 0 := ⟨_, rfl⟩
      obtain ⟨v, hv⟩ : ∃ v : Nat → Nat, v = fun i => cs.getD (b + i) 0 := ⟨_, rfl⟩
      rw [← hu, ← hv]
      obtain ⟨z, hz⟩ : ∃ z, z = eqO 0 := ⟨_, rfl⟩
      have HZ := Lib.hid hz
      have NT := Lib.hid (fun w => show Calls Try.prog 39 #[.int .u64 0] w fun e w' => e = .returned (.int .u64 (z : Int)) ∧ w = w' by
        have := not_any 0 w (by decide)
        rw [show onesN - 0 = z by rw [hz]; rfl] at this
        exact this)
      have CC := Lib.hid ((callsIn_wide (n := 4)).2 CK.out)
      have CR := Lib.hid ((callsIn_wide (n := 4)).2 RO.out)
      have CN := Lib.hid (fun w => (callsIn_wide (n := 4)).2 (NT.out w))
      have CL := Lib.hid (fun w => (callsIn_wide (n := 4)).2 (loaded_any p a b j w))
      have HU := Lib.hid hu
      have HV := Lib.hid hv
      have AA := Lib.hid (And.intro ha (And.intro hb (And.intro hl (And.intro hj1 (And.intro hj2 hn)))))
      have BB := Lib.hid (And.intro hb2 (And.intro hs2 (And.intro b0 b1)))
      have HA2 := Lib.hid h2
      clear hz hE hE0 hE1 hx hy RO CK NT PUT0 R0 R1 hs4 hw2 hu hv ha hb hl hj1 hj2 hn hb2 hs2 b0 b1 h2
      refine (callsIn_wide (n := 5)).1 ?_
      refine callsIn_of_wp_marks Try.func51 rfl trivial ?_ rfl
      simp only [Try.ntmps51, List.size_toArray, List.length_cons, List.length_nil, Nat.reduceAdd, Nat.reduceSub, Array.replicate_succ, Array.replicate_zero, List.push_toArray, List.append_toArray, List.nil_append, List.cons_append]
      gi_wp2_with (first
        | (refine ⟨trivial, ?_⟩; gi_at_call 53; rw [← HW2.out]; (with_reducible refine (CC.out).mono ?_); rintro e w' ⟨rfl, rfl⟩)
        | (refine ⟨trivial, ?_⟩; gi_at_call 55; (with_reducible refine (CR.out).mono ?_); rintro e w' ⟨rfl, rfl⟩)
        | (refine ⟨trivial, ?_⟩; gi_at_call 39; (with_reducible refine (CN.out _).mono ?_); rintro e w' ⟨rfl, rfl⟩)
        | (refine ⟨trivial, ?_⟩; gi_at_call 74; (with_reducible refine (CL.out _).mono ?_); rintro e w' ⟨rfl, rfl⟩))
      clear CC CR CN CL c0 c1 f0 f1
      obtain ⟨hb2, hs2, b0, b1⟩ := BB.out
      obtain ⟨s, hs⟩ : ∃ s, s = w.heap.size := ⟨_, rfl⟩
      obtain ⟨w3, hw3⟩ : ∃ W, W = w2.setCell ⟨w.heap.size, 0, none⟩ (.int .u64 (z : Int)) := ⟨_, rfl⟩
      have hs3 : w3.heap.size = w2.heap.size := by rw [hw3]; simp [World.setCell]
      have hb3 : Below w.heap.size w w3 := by rw [hw3]; exact hb2.setCell (p := ⟨w.heap.size, 0, none⟩) (Nat.le_refl _) _
      have c0 : Boxed w3 w.heap.size 22 (.int .u64 (z : Int)) := by rw [hw3]; exact b0.set _
      have c1 : Boxed w3 (w.heap.size + 1) 22 (.int .u64 0) := by rw [hw3]; exact b1.other (by omega) _
      rw [← hw3]
      obtain ⟨w4, hw4⟩ : ∃ W, W = (((w3.alloc (.cells #[.pointer (some ⟨p, 0, none⟩)] 30)).alloc (.cells #[.int .i64 (a : Int)] 3)).alloc (.cells #[.int .i64 (b : Int)] 3)).alloc (.cells #[.int .i64 (j : Int)] 3) := ⟨_, rfl⟩
      rw [← hw4]
      obtain ⟨hs4, hb4, d2, d3, d4, d5⟩ := cm4 w3 w4 p a b j hw4
      rw [hs3, hs2, ← hs] at hs4 d2 d3 d4 d5
      have hs4 : w4.heap.size = s + 6 := hs4
      rw [show w2.heap.size + 1 + 1 + 1 = s + 5 by omega, show w2.heap.size + 1 + 1 = s + 4 by omega, show w2.heap.size + 1 = s + 3 by omega, show w2.heap.size = s + 2 by omega, ← hs]
      have d0 : Boxed w4 s 22 (.int .u64 (z : Int)) := by rw [hs]; exact (hb4.block _ (by omega)).trans c0
      have d1 : Boxed w4 (s + 1) 22 (.int .u64 0) := by rw [hs]; exact (hb4.block _ (by omega)).trans c1
      have hbw : Below w.heap.size w w4 := hb3.trans (hb4.mono (by omega))
      clear hw4 hw3 c0 c1 b0 b1 BB
      have D0 := Lib.hid (And.intro d0 (And.intro d1 (And.intro d2 (And.intro d3 (And.intro d4 d5)))))
      have DB := Lib.hid hbw
      have HS := Lib.hid hs
      have HS4 := Lib.hid hs4
      have WC := Lib.hid h.wcs
      clear d0 d1 d2 d3 d4 d5 hb4 hb3 hb2 hbw hs2 hs3 HW2 HA2
      refine RY.rangeY rfl (by omega) (gf := 85) (lb := #[.pointer (some ⟨s + 5, 0, none⟩), .pointer (some ⟨s + 2, 0, none⟩), .pointer (some ⟨s + 3, 0, none⟩), .pointer (some ⟨s + 4, 0, none⟩)]) rfl trivial (enters_of Try.func85 (by kernel_rfl) rfl)
        (fun W => Bs w F (cmX s) p cs rs (tr ++ cmT a b j) W ∧ ∃ ob, CmB s p a b j (ordS u v j) ob W) ?seq ?done
      case seq =>
        intro ob hoc hT hround
        rw [hs4] at hT hround ⊢
        obtain ⟨ha, hb, hl, hj1, hj2, hn⟩ := AA.out
        have hcI : ∀ (t : Nat → List (Nat × Nat)) k W, CmI w F p a b j cs rs tr u v ob t k W ↔ (Bs w F (cmX s) p cs rs (tr ++ t k) W ∧ CmB s p a b j (ordS u v k) ob W) := fun t k W => by unfold CmI; rw [← hs]
        refine (loaded_iter (m := 4) (p := p) (a := a) (b := b) (n := j) (by omega) u v (CmI w F p a b j cs rs tr u v ob (cmT a b)) (CmI w F p a b j cs rs tr u v ob (fun k => cmT a b k ++ [(1, a + k)])) (CmI w F p a b j cs rs tr u v ob (fun k => cmT a b (k + 1))) hj2 (by omega) (by omega) ?_ ?_ ?_ ?_ ?_ ?_).mono ?_
        · intro k W hk
          exact ((hcI _ _ _).1 hk).2.cells
        · intro k W hk
          have := ((hcI _ _ _).1 hk).2.cells
          exact ⟨this.1, this.2.2.1⟩
        · intro k W hk hI
          obtain ⟨hB, hC⟩ := (hcI _ _ _).1 hI
          refine (bs_act hB (fun G ar => ar_load ar (a + k) (u k) (by rw [HU.out]) (by omega) (by rw [List.length_append, cmT_len]; omega))).mono ?_
          rintro e W' ⟨rfl, hB', hX⟩
          exact ⟨rfl, (hcI _ _ _).2 ⟨by rw [← List.append_assoc]; exact hB', hC.to hX⟩⟩
        · intro k W hk hI
          obtain ⟨hB, hC⟩ := (hcI _ _ _).1 hI
          refine (bs_act hB (fun G ar => ar_load ar (b + k) (v k) (by rw [HV.out]) (by omega) (by rw [List.length_append, List.length_append, cmT_len, List.length_singleton]; omega))).mono ?_
          rintro e W' ⟨rfl, hB', hX⟩
          refine ⟨rfl, (hcI _ _ _).2 ⟨?_, hC.to hX⟩⟩
          rw [show tr ++ cmT a b (k + 1) = tr ++ (cmT a b k ++ [(1, a + k)]) ++ [(1, b + k)] by simp [cmT]]
          exact hB'
        · intro k W hk hI
          obtain ⟨hB, hC⟩ := (hcI _ _ _).1 hI
          refine yield_mono (hround #[.int .u64 (u k : Int), .int .u64 (v k : Int)] W (fun W' => Bs w F (cmX s) p cs rs (tr ++ cmT a b (k + 1)) W' ∧ ∃ ob', CmB s p a b j (ordS u v (k + 1)) ob' W') hC.two rfl ?_) ?_
          · rw [show (#[36, 37] : Array Tmp).zip (#[.int .u64 (u k : Int), .int .u64 (v k : Int)] : Array Value) = #[(36, .int .u64 (u k : Int)), (37, .int .u64 (v k : Int))] from by simp]
            have hu2 : u k < 2 ^ 64 := by rw [HU.out]; exact wcs_at WC.out _
            have hv2 : v k < 2 ^ 64 := by rw [HV.out]; exact wcs_at WC.out _
            have LE := Lib.hid (fun w => less_flip (less_any (u k) (v k) w hu2 hv2))
            have EQ := Lib.hid (fun w => less_flip (equal_any (u k) (v k) w hu2 hv2))
            have O1 := Lib.hid (ltO_step u v k)
            have O2 := Lib.hid (eqO_step u v k)
            have a1 := u64_and_nat (eqO (ordS u v k)) (ltM (u k) (v k)) (isM_lt (eqO_mask _)) (ltM_lt _ _)
            have a2 := u64_or_nat (ltO (ordS u v k)) (eqO (ordS u v k) &&& ltM (u k) (v k)) (isM_lt (ltO_mask _)) (Nat.lt_of_le_of_lt Nat.and_le_right (ltM_lt _ _))
            have a3 := u64_and_nat (eqO (ordS u v k)) (eqM (u k) (v k)) (isM_lt (eqO_mask _)) (eqM_lt _ _)
            rw [O1.out] at a2
            rw [O2.out] at a3
            have HB := Lib.hid hB
            have HCC := Lib.hid hC
            have HTW := Lib.hid hC.two
            clear hB hC hI hround hT hcI ha hb hl hj1 hj2 hn hu2 hv2 hs hs4 e1
            obtain ⟨lo, hlo⟩ : ∃ z, z = ltO (ordS u v k) := ⟨_, rfl⟩
            obtain ⟨eo, heo⟩ : ∃ z, z = eqO (ordS u v k) := ⟨_, rfl⟩
            obtain ⟨lm, hlm⟩ : ∃ z, z = ltM (u k) (v k) := ⟨_, rfl⟩
            obtain ⟨em, hem⟩ : ∃ z, z = eqM (u k) (v k) := ⟨_, rfl⟩
            obtain ⟨l2, hl2⟩ : ∃ z, z = ltO (ordS u v (k + 1)) := ⟨_, rfl⟩
            obtain ⟨e2, he2⟩ : ∃ z, z = eqO (ordS u v (k + 1)) := ⟨_, rfl⟩
            obtain ⟨x1, hx1⟩ : ∃ z, z = eo &&& lm := ⟨_, rfl⟩
            rw [← heo, ← hlm, ← hx1] at a1
            rw [← hlo, ← heo, ← hlm, ← hx1, ← hl2] at a2
            rw [← heo, ← hem, ← he2] at a3
            simp only [← hlm] at LE
            simp only [← hem] at EQ
            have G1 := Lib.hid hlo
            have G2 := Lib.hid heo
            have G3 := Lib.hid hl2
            have G4 := Lib.hid he2
            clear hlo heo hlm hem hl2 he2 hx1
            gi_wp2
            refine ⟨HTW.out, fun r' => ?_⟩
            obtain ⟨W2, hW2⟩ : ∃ X, X = W.putObj (s + 6 + 1) (.loop r') := ⟨_, rfl⟩
            rw [← hW2]
            have hS := HS.out
            have HB2 := Lib.hid (show Bs w F (cmX s) p cs rs (tr ++ cmT a b (k + 1)) W2 by rw [hW2]; exact HB.out.loop (s + 7) ⟨⟨by omega, by omega⟩, by omega⟩ (.loop r'))
            have hC2 : CmB s p a b j (ordS u v k) (.loop r') W2 := by rw [hW2]; exact HCC.out.loop (.loop r')
            have HC2 := Lib.hid hC2
            clear hW2 hS
            have c0 := hC2.same.cell
            have c1 := hC2.less.cell
            have f1 := hC2.less.frozen
            rw [← G2.out] at c0
            rw [← G1.out] at c1
            clear hC2
            gi_wp2
            refine RY.region_still_round 7 (by kernel_rfl) (by kernel_rfl) (by kernel_rfl) (fun ⟨_, _, hq⟩ => nomatch hq.1) ?_
            simp only [List.take_succ_cons, List.take_zero, List.drop_succ_cons, List.drop_zero]
            repeat (first | still_step | still_call (LE.out _))
            refine wpStill_nil ?_
            go_wp2
            obtain ⟨W3, hW3⟩ : ∃ X, X = (W2.setCell ⟨s + 1, 0, none⟩ (.int .u64 (l2 : Int))).drew := ⟨_, rfl⟩
            rw [← hW3]
            have d0 : Boxed W3 s 22 (.int .u64 (eo : Int)) := by rw [hW3, G2.out]; exact HC2.out.same.other (by omega) (.int .u64 (l2 : Int))
            have HW3 := Lib.hid hW3
            clear hW3 c0 c1 f1
            have c0 := d0.cell
            have f0 := d0.frozen
            clear d0
            refine RY.region_still_round 5 (by kernel_rfl) (by kernel_rfl) (by kernel_rfl) (fun ⟨_, _, hq⟩ => nomatch hq.1) ?_
            simp only [List.take_succ_cons, List.take_zero, List.drop_succ_cons, List.drop_zero]
            repeat (first | still_step | still_call (EQ.out _))
            refine wpStill_nil ?_
            go_wp2
            have hS := HS.out
            have hC4 : CmB s p a b j (ordS u v (k + 1)) (.loop r') ((W3.setCell ⟨s, 0, none⟩ (.int .u64 (e2 : Int))).drew) := by
              rw [HW3.out]
              exact (HC2.out.sets (o' := ordS u v (k + 1)) (.int .u64 (l2 : Int)) (.int .u64 (e2 : Int)) (by rw [G3.out]) (by rw [G4.out])).drew
            have hB4 : Bs w F (cmX s) p cs rs (tr ++ cmT a b (k + 1)) ((W3.setCell ⟨s, 0, none⟩ (.int .u64 (e2 : Int))).drew) := by
              rw [HW3.out]
              exact (HB2.out.sets (a := s) (b := s + 1) ⟨⟨by omega, by omega⟩, by omega⟩ ⟨⟨by omega, by omega⟩, by omega⟩ _ _).below ((Below.refl _ _).drew)
            exact ⟨rfl, hC4.two, fun r'' => ⟨hB4.loop _ ⟨⟨by omega, by omega⟩, by omega⟩ _, _, hC4.loop _⟩⟩
          · rintro e W' ⟨rfl, ht, hB', ob', hC'⟩
            exact ⟨rfl, (hcI _ _ _).2 ⟨hB', hC'.same, hC'.less, hC'.pb, hC'.xb, hC'.yb, hC'.nb, ht⟩⟩
        · refine (hcI _ _ _).2 ⟨?_, ?_⟩
          · have h4 := (Bs.start h).beside (W' := (w4.alloc (.deferred (some []))).alloc ob) (X' := cmX s) (((DB.out).alloc (Nat.le_trans (by omega) (Nat.le_refl _)) _).alloc (by simp; omega) _) fun k hk => ⟨by simp; omega, .inr (by omega)⟩
            rw [show tr ++ cmT a b 0 = tr from List.append_nil _]
            exact h4
          · obtain ⟨d0, d1, d2, d3, d4, d5⟩ := D0.out
            have hz := HZ.out
            subst hz
            exact ⟨(d0.alloc _).alloc _, (d1.alloc _).alloc _, (d2.alloc _).alloc _, (d3.alloc _).alloc _, (d4.alloc _).alloc _, (d5.alloc _).alloc _, hT⟩
        · rintro e W' ⟨hv', hI⟩
          obtain ⟨hB, hC⟩ := (hcI _ _ _).1 hI
          exact ⟨hv', hC.two, fun r' => ⟨hB.loop _ ⟨⟨by omega, by omega⟩, by omega⟩ _, _, hC.loop _⟩⟩
      case done =>
        intro W hD ⟨hB, ob, hC⟩
        rw [hs4] at hD ⊢
        clear hs hs4 e1
        have c0 := hC.same.cell
        have c1 := hC.less.cell
        have f0 := hC.same.frozen
        have f1 := hC.less.frozen
        have g1 : (W.drew.setCell ⟨s, 0, none⟩ (.int .u64 (eqO (ordS u v j) : Int))).cell? ⟨s + 1, 0, none⟩ = some (.int .u64 (ltO (ordS u v j) : Int)) := (hC.drew.less.other (by omega) _).cell
        have g2 : (W.drew.setCell ⟨s, 0, none⟩ (.int .u64 (eqO (ordS u v j) : Int))).frozen? ⟨s + 1, 0, none⟩ = false := (hC.drew.less.other (by omega) _).frozen
        gi_wp2
        gi_region
        have q0 : Boxed ((W.setCell ⟨s, 0, none⟩ (.int .u64 (eqO (ordS u v j) : Int))).setCell ⟨s + 1, 0, none⟩ (.int .u64 (ltO (ordS u v j) : Int))).drew s 22 (.int .u64 (eqO (ordS u v j) : Int)) := (hC.same.set _).other (by omega) _
        have q1 : Boxed ((W.setCell ⟨s, 0, none⟩ (.int .u64 (eqO (ordS u v j) : Int))).setCell ⟨s + 1, 0, none⟩ (.int .u64 (ltO (ordS u v j) : Int))).drew (s + 1) 22 (.int .u64 (ltO (ordS u v j) : Int)) := (hC.less.other (by omega) _).set _
        have hK : ((W.setCell ⟨s, 0, none⟩ (.int .u64 (eqO (ordS u v j) : Int))).setCell ⟨s + 1, 0, none⟩ (.int .u64 (ltO (ordS u v j) : Int))).drew.heap[s + 6]? = some (.deferred (some [])) := (Below.heap_setCell _ _ _ _ (by simp)).trans ((Below.heap_setCell _ _ _ _ (by simp)).trans hD)
        have hS := HS.out
        have hF := hB.put (W' := ((W.setCell ⟨s, 0, none⟩ (.int .u64 (eqO (ordS u v j) : Int))).setCell ⟨s + 1, 0, none⟩ (.int .u64 (ltO (ordS u v j) : Int))).drew.putObj (s + 6) (.deferred none)) (Y := fun i => i = s ∨ i = s + 1 ∨ i = s + 6)
          (((((Kept.refl _ W).setCell (p := ⟨s, 0, none⟩) (.inl (.inl rfl)) _).setCell (p := ⟨s + 1, 0, none⟩) (.inl (.inr (.inl rfl))) _).drew).trans (kept_put _ (s + 6) _) fun i hi => .inl (.inr (.inr hi))) fun k hk => by
            rcases hk with rfl | rfl | rfl <;> exact ⟨⟨by omega, by omega⟩, by omega⟩
        have HF := Lib.hid hF
        have Q0 := Lib.hid (show Boxed _ s 22 (.int .u64 (eqO (ordS u v j) : Int)) from (World.putObj_heap_other (o := .deferred none) (show s ≠ s + 6 by omega)).trans q0)
        have Q1 := Lib.hid (show Boxed _ (s + 1) 22 (.int .u64 (ltO (ordS u v j) : Int)) from (World.putObj_heap_other (o := .deferred none) (show s + 1 ≠ s + 6 by omega)).trans q1)
        have HK := Lib.hid hK
        clear hF q0 q1 hK hS hB hC
        gi_wp2
        refine ⟨by simp, .inl ⟨_, _, rfl, run_takeDeferred HK.out, _, results_cct rfl _ _ rfl rfl Q0.out.cell Q1.out.cell, rfl, HF.out.done⟩⟩
end
end Go.Proofs.Ytalnhbjpfnodiaa
