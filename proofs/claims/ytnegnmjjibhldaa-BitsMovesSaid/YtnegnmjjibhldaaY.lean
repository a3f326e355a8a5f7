/- Layer 2: the law on moves, walked. -/
import Derived.Test.YtnegnmjjibhldaaX
import Derived.Deep.Cut
import Derived.Deep.CutRange
namespace Go.Proofs.Ytnegnmjjibhldaa
open Go.RowKit
/-- A box of two Booleans. -/
def BX (w : World) (B : Nat) (p q : Bool) : Prop := w.cell? ⟨B, 0, none⟩ = some (.bool p) ∧ w.cell? ⟨B, 1, none⟩ = some (.bool q) ∧ B < w.heap.size
theorem BX.below {w w' : World} {B : Nat} {p q : Bool} (h : BX w B p q) (hb : Below w.heap.size w w') : BX w' B p q :=
  ⟨(hb.cell (p := ⟨B, 0, none⟩) h.2.2).trans h.1, (hb.cell (p := ⟨B, 1, none⟩) h.2.2).trans h.2.1, Nat.lt_of_lt_of_le h.2.2 hb.size⟩
theorem BX.new (w : World) (p q : Bool) : BX (w.alloc (.cells #[.bool p, .bool q] 46)) w.heap.size p q := ⟨by simp, by simp, by simp⟩
theorem guard2 (op : BinOp) (x y : Operand) (xs ys : Array Value) (w : World) : (eqGuard op 46 x y (.agg xs) (.agg ys)).run Try.prog w = .ok () w := run_eqGuard_agg w op _ x y xs ys (by kernel_rfl)
attribute [local go_sem] eq2 guard2
theorem sh_op {n : Nat} {L U V xs ys : List Nat} {c0 c1 : Bool} (op : Bool → Bool → Bool) (hL : ∀ i, i < 64 * n → rbit L i = op (rbit xs i) (rbit ys i)) (hU : ∀ i, i < 64 * n → rbit U i = shF xs c0 i) (hV : ∀ i, i < 64 * n → rbit V i = shF ys c1 i) :
    mkRow n (shF L (op c0 c1)) = mkRow n (fun i => op (rbit U i) (rbit V i)) := mkRow_congr fun i hi => by
  rw [hU i hi, hV i hi]
  unfold shF
  by_cases h : i = 0
  · simp [h]
  · rw [if_neg h, if_neg h, if_neg h, hL _ (by omega)]
theorem ba_op {n : Nat} {L U V xs ys : List Nat} {c0 c1 : Bool} (op : Bool → Bool → Bool) (lL : L.length = n) (lx : xs.length = n) (ly : ys.length = n) (hL : ∀ i, i < 64 * n → rbit L i = op (rbit xs i) (rbit ys i)) (hU : ∀ i, i < 64 * n → rbit U i = baF xs c0 i) (hV : ∀ i, i < 64 * n → rbit V i = baF ys c1 i) :
    mkRow n (baF L (op c0 c1)) = mkRow n (fun i => op (rbit U i) (rbit V i)) := mkRow_congr fun i hi => by
  rw [hU i hi, hV i hi]
  unfold baF
  rw [lL, lx, ly]
  by_cases h : i = 64 * n - 1
  · rw [if_pos h, if_pos h, if_pos h]
  · rw [if_neg h, if_neg h, if_neg h, hL _ (by omega)]
theorem row_nm (n : Nat) (f : Nat → Bool) : ∃ r, mkRow n f = r ∧ r.length = n ∧ Wf r ∧ ∀ i, i < 64 * n → rbit r i = f i := ⟨_, rfl, mkRow_len _ _, mkRow_wf _ _, fun i hi => mkRow_bit _ _ i hi⟩
set_option maxHeartbeats 8000000 in
set_option maxRecDepth 100000 in
theorem moves_any (v u : Value) (xs ys : List Nat) (c0 c1 : Bool) (w : World) (hv : URow w v xs) (hu : URow w u ys) (hw : Wf xs) (hwy : Wf ys) : Calls Try.prog 7 #[v, u, .agg #[.bool c0, .bool c1]] w fun e w' => e = .returned (.bool true) ∧ Below w.heap.size w w' := by
  have AW := Lib.hid (fun w' => awake_any w')
  have hb : Below w.heap.size w (w.alloc (.cells #[.bool c0, .bool c1] 46)) := (Below.refl _ w).alloc (Nat.le_refl _) _
  have CK := Lib.hid (check_any v xs _ (hv.below hb))
  by_cases hc : chk xs.length = 0
  · by_cases hl : xs.length = ys.length
    · have h8 := chk_zero hc
      have rv := hv.below hb
      have ru := hu.below hb
      have x5 := BX.new w c0 c1
      obtain ⟨n, hn⟩ : ∃ n, xs.length = n := ⟨_, rfl⟩
      have hm : ys.length = n := hl.symm.trans hn
      have hcn : chk n = 0 := by rw [← hn]; exact hc
      rw [hn] at h8
      have z1 : 0 < 64 * n := by omega
      have z2 : 64 * n - 1 < 64 * n := by omega
      have hle : n ≤ 1000000 := by omega
      obtain ⟨LA, nLA, lLA, fLA, bLA⟩ := row_nm n (fun i => rbit xs i && rbit ys i)
      obtain ⟨LO, nLO, lLO, fLO, bLO⟩ := row_nm n (fun i => rbit xs i || rbit ys i)
      obtain ⟨LN, nLN, lLN, fLN, bLN⟩ := row_nm n (fun i => !rbit xs i)
      obtain ⟨U1, nU1, lU1, fU1, bU1⟩ := row_nm n (shF xs c0)
      obtain ⟨D1, nD1, lD1, fD1, bD1⟩ := row_nm n (baF xs c0)
      obtain ⟨U2, nU2, lU2, fU2, bU2⟩ := row_nm n (shF ys c1)
      obtain ⟨D2, nD2, lD2, fD2, bD2⟩ := row_nm n (baF ys c1)
      obtain ⟨PA, nPA, lPA, -, -⟩ := row_nm n (fun i => rbit U1 i && rbit U2 i)
      obtain ⟨QA, nQA, lQA, -, -⟩ := row_nm n (fun i => rbit D1 i && rbit D2 i)
      obtain ⟨PO, nPO, lPO, -, -⟩ := row_nm n (fun i => rbit U1 i || rbit U2 i)
      obtain ⟨QO, nQO, lQO, -, -⟩ := row_nm n (fun i => rbit D1 i || rbit D2 i)
      obtain ⟨PN, nPN, lPN, -, -⟩ := row_nm n (fun i => !rbit U1 i)
      obtain ⟨QN, nQN, lQN, -, -⟩ := row_nm n (fun i => !rbit D1 i)
      have SPA := Lib.hid (fun w' a b h1 h2 => same_yes a b PA w' h1 h2 (by rw [lPA]; exact hle))
      have SQA := Lib.hid (fun w' a b h1 h2 => same_yes a b QA w' h1 h2 (by rw [lQA]; exact hle))
      have SPO := Lib.hid (fun w' a b h1 h2 => same_yes a b PO w' h1 h2 (by rw [lPO]; exact hle))
      have SQO := Lib.hid (fun w' a b h1 h2 => same_yes a b QO w' h1 h2 (by rw [lQO]; exact hle))
      have SPN := Lib.hid (fun w' a b h1 h2 => same_yes a b PN w' h1 h2 (by rw [lPN]; exact hle))
      have SQN := Lib.hid (fun w' a b h1 h2 => same_yes a b QN w' h1 h2 (by rw [lQN]; exact hle))
      have K1 := Lib.hid (fun w' v u (h1 : URow w' v xs) (h2 : URow w' u ys) => and_ok (zs := LA) v u w' h1 h2 hw hwy (by rw [hn]; exact hcn) (by rw [hn, hm]) (by rw [hn, nLA]))
      have K2 := Lib.hid (fun w' v u (h1 : URow w' v xs) (h2 : URow w' u ys) => or_ok (zs := LO) v u w' h1 h2 hw hwy (by rw [hn]; exact hcn) (by rw [hn, hm]) (by rw [hn, nLO]))
      have K3 := Lib.hid (fun w' v (h1 : URow w' v xs) => not_ok (zs := LN) v w' h1 hw (by rw [hn]; exact hcn) (by rw [hn, nLN]))
      have A1 := Lib.hid (fun w' v u (h1 : URow w' v U1) (h2 : URow w' u U2) => and_ok (zs := PA) v u w' h1 h2 fU1 fU2 (by rw [lU1]; exact hcn) (by rw [lU1, lU2]) (by rw [lU1, nPA]))
      have A2 := Lib.hid (fun w' v u (h1 : URow w' v D1) (h2 : URow w' u D2) => and_ok (zs := QA) v u w' h1 h2 fD1 fD2 (by rw [lD1]; exact hcn) (by rw [lD1, lD2]) (by rw [lD1, nQA]))
      have O1 := Lib.hid (fun w' v u (h1 : URow w' v U1) (h2 : URow w' u U2) => or_ok (zs := PO) v u w' h1 h2 fU1 fU2 (by rw [lU1]; exact hcn) (by rw [lU1, lU2]) (by rw [lU1, nPO]))
      have O2 := Lib.hid (fun w' v u (h1 : URow w' v D1) (h2 : URow w' u D2) => or_ok (zs := QO) v u w' h1 h2 fD1 fD2 (by rw [lD1]; exact hcn) (by rw [lD1, lD2]) (by rw [lD1, nQO]))
      have N1 := Lib.hid (fun w' v (h1 : URow w' v U1) => not_ok (zs := PN) v w' h1 fU1 (by rw [lU1]; exact hcn) (by rw [lU1, nPN]))
      have N2 := Lib.hid (fun w' v (h1 : URow w' v D1) => not_ok (zs := QN) v w' h1 fD1 (by rw [lD1]; exact hcn) (by rw [lD1, nQN]))
      obtain ⟨o0, ho0⟩ : ∃ o, rbit xs (64 * n - 1) = o := ⟨_, rfl⟩
      obtain ⟨o1, ho1⟩ : ∃ o, rbit xs 0 = o := ⟨_, rfl⟩
      obtain ⟨e0, he0⟩ : ∃ o, rbit ys (64 * n - 1) = o := ⟨_, rfl⟩
      obtain ⟨e1, he1⟩ : ∃ o, rbit ys 0 = o := ⟨_, rfl⟩
      have M1 := Lib.hid (fun w' v (h1 : URow w' v xs) => moved_ok (ys := U1) (zs := D1) (bt := c0) (o := o0) (p := o1) v w' h1 hw (by rw [hn]; exact hcn) (by rw [hn, nU1]) (by rw [hn, nD1]) (by rw [hn, ho0]) ho1)
      have M2 := Lib.hid (fun w' v (h1 : URow w' v ys) => moved_ok (ys := U2) (zs := D2) (bt := c1) (o := e0) (p := e1) v w' h1 hwy (by rw [hm]; exact hcn) (by rw [hm, nU2]) (by rw [hm, nD2]) (by rw [hm, he0]) he1)
      have MA := Lib.hid (fun w' v (h1 : URow w' v LA) => moved_ok (ys := PA) (zs := QA) (bt := c0 && c1) (o := o0 && e0) (p := o1 && e1) v w' h1 fLA (by rw [lLA]; exact hcn) (by rw [lLA, ← nPA]; exact sh_op and bLA bU1 bU2) (by rw [lLA, ← nQA]; exact ba_op and lLA hn hm bLA bD1 bD2) (by rw [lLA, bLA _ z2, ho0, he0]) (by rw [bLA _ z1, ho1, he1]))
      have MO := Lib.hid (fun w' v (h1 : URow w' v LO) => moved_ok (ys := PO) (zs := QO) (bt := c0 || c1) (o := o0 || e0) (p := o1 || e1) v w' h1 fLO (by rw [lLO]; exact hcn) (by rw [lLO, ← nPO]; exact sh_op or bLO bU1 bU2) (by rw [lLO, ← nQO]; exact ba_op or lLO hn hm bLO bD1 bD2) (by rw [lLO, bLO _ z2, ho0, he0]) (by rw [bLO _ z1, ho1, he1]))
      have MN := Lib.hid (fun w' v (h1 : URow w' v LN) => moved_ok (ys := PN) (zs := QN) (bt := !c0) (o := !o0) (p := !o1) v w' h1 fLN (by rw [lLN]; exact hcn) (by rw [lLN, ← nPN]; exact sh_op (fun a _ => !a) (c1 := c0) bLN bU1 bU1) (by rw [lLN, ← nQN]; exact ba_op (fun a _ => !a) (c1 := c0) lLN hn hn bLN bD1 bD1) (by rw [lLN, bLN _ z2, ho0]) (by rw [bLN _ z1, ho1]))
      clear nLA lLA fLA bLA nLO lLO fLO bLO nLN lLN fLN bLN nU1 lU1 fU1 bU1 nD1 lD1 fD1 bD1 nU2 lU2 fU2 bU2 nD2 lD2 fD2 bD2 nPA lPA nQA lQA nPO lPO nQO lQO nPN lPN nQN lQN ho0 ho1 he0 he1
      obtain ⟨p, c, rfl, _, _⟩ := hv
      obtain ⟨p2, c', rfl, _, _⟩ := hu
      rw [hn] at rv CK ⊢
      rw [hm] at ru ⊢
      rw [hcn] at CK
      clear z1 z2 hle hc hl h8 hn hm hcn hw hwy
      go_enter Try.func7, Try.ntmps7
      go_wp2_with (first
        | (go_at_call 14; refine CK.out.mono ?_; rintro e w1 ⟨rfl, rfl⟩; clear CK)
        | (go_at_call 30; (with_reducible refine (K1.out _ _ _ rv ru).mono ?_); rintro e w1 ⟨a1, rfl, r1, hb2⟩; replace hb := hb.trans (hb2.mono hb.size); (try replace rv := rv.below hb2); (try replace ru := ru.below hb2); (try replace x5 := x5.below hb2); clear hb2; clear K1)
        | (go_at_call 32; (with_reducible refine (K2.out _ _ _ rv ru).mono ?_); rintro e w1 ⟨a2, rfl, r2, hb2⟩; replace hb := hb.trans (hb2.mono hb.size); (try replace rv := rv.below hb2); (try replace ru := ru.below hb2); (try replace x5 := x5.below hb2); (try replace r1 := r1.below hb2); clear hb2; clear K2)
        | (go_at_call 34; (with_reducible refine (K3.out _ _ rv).mono ?_); rintro e w1 ⟨a3, rfl, r3, hb2⟩; replace hb := hb.trans (hb2.mono hb.size); (try replace rv := rv.below hb2); (try replace ru := ru.below hb2); (try replace x5 := x5.below hb2); (try replace r1 := r1.below hb2); (try replace r2 := r2.below hb2); clear hb2; clear K3; have i0 := x5.1; have i1 := x5.2.1)
        | (go_at_call 36; first
          | ((with_reducible refine (M1.out _ _ rv).mono ?_); rintro e w1 ⟨u1, d1, rfl, q1, q2, hb2⟩; replace hb := hb.trans (hb2.mono hb.size); (try replace rv := rv.below hb2); (try replace ru := ru.below hb2); (try replace x5 := x5.below hb2); (try replace r1 := r1.below hb2); (try replace r2 := r2.below hb2); (try replace r3 := r3.below hb2); clear hb2
             have x15 := BX.new w1 o0 o1
             have hb2 : Below w1.heap.size w1 (w1.alloc (.cells #[.bool o0, .bool o1] 46)) := (Below.refl _ w1).alloc (Nat.le_refl _) _
             replace hb := hb.trans (hb2.mono hb.size); (try replace rv := rv.below hb2); (try replace ru := ru.below hb2); (try replace x5 := x5.below hb2); (try replace r1 := r1.below hb2); (try replace r2 := r2.below hb2); (try replace r3 := r3.below hb2); (try replace q1 := q1.below hb2); (try replace q2 := q2.below hb2); clear hb2; clear M1 i0 i1; have i0 := x5.1; have i1 := x5.2.1)
          | ((with_reducible refine (M2.out _ _ ru).mono ?_); rintro e w2 ⟨u2, d2, rfl, q3, q4, hb2⟩; clear rv ru M2 i0 i1; replace hb := hb.trans (hb2.mono hb.size); (try replace x5 := x5.below hb2); (try replace x15 := x15.below hb2); (try replace r1 := r1.below hb2); (try replace r2 := r2.below hb2); (try replace r3 := r3.below hb2); (try replace q1 := q1.below hb2); (try replace q2 := q2.below hb2); clear hb2
             have x19 := BX.new w2 e0 e1
             have hb2 : Below w2.heap.size w2 (w2.alloc (.cells #[.bool e0, .bool e1] 46)) := (Below.refl _ w2).alloc (Nat.le_refl _) _
             replace hb := hb.trans (hb2.mono hb.size); (try replace x5 := x5.below hb2); (try replace x15 := x15.below hb2); (try replace r1 := r1.below hb2); (try replace r2 := r2.below hb2); (try replace r3 := r3.below hb2); (try replace q1 := q1.below hb2); (try replace q2 := q2.below hb2); (try replace q3 := q3.below hb2); (try replace q4 := q4.below hb2); clear hb2
             have HB := Lib.hid hb
             have X := Lib.hid (And.intro x5 (And.intro x15 x19))
             have R := Lib.hid (And.intro r1 (And.intro r2 r3))
             have Q := Lib.hid (And.intro q1 (And.intro q2 (And.intro q3 q4)))
             clear hb x5 x15 x19 r1 r2 r3 q1 q2 q3 q4)))
      go_loopw [21, 22, 23, 24, 25, 26, 27, 28, 29, 30, 31, 32, 33] (fun i _ _ _ _ _ _ _ _ _ _ _ _ wr => ∃ k : Int, 0 ≤ k ∧ k ≤ 3 ∧ i = .int .i64 k ∧ (BX wr w.heap.size c0 c1 ∧ BX wr w1.heap.size o0 o1 ∧ BX wr w2.heap.size e0 e1) ∧ (URow wr a1 LA ∧ URow wr a2 LO ∧ URow wr a3 LN) ∧ (URow wr u1 U1 ∧ URow wr d1 D1 ∧ URow wr u2 U2 ∧ URow wr d2 D2) ∧ Below w.heap.size w wr) (fun i _ _ _ _ _ _ _ _ _ _ _ _ _ => (3 - intOf i).toNat)
      case atStart => exact ⟨0, by omega, by omega, rfl, X.out, R.out, Q.out, HB.out⟩
      case round =>
        clear X R Q HB
        obtain ⟨k, hk0, hk3, rfl, ⟨x5, x15, x19⟩, ⟨r1, r2, r3⟩, ⟨q1, q2, q3, q4⟩, hb⟩ := hrel
        by_cases hlt : k < 3
        · have i0 := x5.1; have i1 := x5.2.1; have j0 := x15.1; have j1 := x15.2.1; have k0 := x19.1; have k1 := x19.2.1
          go_upto_region 13 with fail
          go_cut [22, 23, 24, 25] from 98 to 224 (fun s22 s23 s24 s25 wx => s22 = a1 ∧ s23 = .bool (c0 && c1) ∧ s24 = .bool (o0 && e0) ∧ s25 = .bool (o1 && e1) ∧ Below wr.heap.size wr wx)
          case first =>
            clear x5 x15 x19 r1 r2 r3 q1 q2 q3 q4 hb SPA SQA SPO SQO SPN SQN A1 A2 O1 O2 N1 N2 MA MO MN AW
            cases c0 <;> cases o0 <;> cases o1 <;> (as_aux_lemma => go_quiet (fail); go_wp2; go_meet; exact ⟨rfl, rfl, rfl, rfl, below_drewN _ _⟩)
          case rest =>
            obtain ⟨h22, rfl, rfl, rfl, hb2⟩ := hcut
            clear i0 i1 j0 j1 k0 k1
            replace hb := hb.trans (hb2.mono hb.size); (try replace x5 := x5.below hb2); (try replace x15 := x15.below hb2); (try replace x19 := x19.below hb2); (try replace r1 := r1.below hb2); (try replace r2 := r2.below hb2); (try replace r3 := r3.below hb2); (try replace q1 := q1.below hb2); (try replace q2 := q2.below hb2); (try replace q3 := q3.below hb2); (try replace q4 := q4.below hb2); clear hb2
            rcases (by omega : k = 0 ∨ k = 1 ∨ k = 2) with rfl | rfl | rfl
            · as_aux_lemma =>
                subst h22
                go_wp2_with (first
                  | (go_at_call 30; first
                      | ((with_reducible refine (A1.out _ _ _ q1 q3).mono ?_); rintro e w3 ⟨pp, rfl, rp, hb2⟩; replace hb := hb.trans (hb2.mono hb.size); (try replace x5 := x5.below hb2); (try replace x15 := x15.below hb2); (try replace x19 := x19.below hb2); (try replace r1 := r1.below hb2); (try replace r2 := r2.below hb2); (try replace r3 := r3.below hb2); (try replace q1 := q1.below hb2); (try replace q2 := q2.below hb2); (try replace q3 := q3.below hb2); (try replace q4 := q4.below hb2); clear hb2)
                      | ((with_reducible refine (A2.out _ _ _ q2 q4).mono ?_); rintro e w3 ⟨qq, rfl, rq, hb2⟩; replace hb := hb.trans (hb2.mono hb.size); (try replace x5 := x5.below hb2); (try replace x15 := x15.below hb2); (try replace x19 := x19.below hb2); (try replace r1 := r1.below hb2); (try replace r2 := r2.below hb2); (try replace r3 := r3.below hb2); (try replace q1 := q1.below hb2); (try replace q2 := q2.below hb2); (try replace q3 := q3.below hb2); (try replace q4 := q4.below hb2); (try replace rp := rp.below hb2); clear hb2))
                  | (go_at_call 36; (with_reducible refine (MA.out _ _ r1).mono ?_); rintro e w3 ⟨u4, d4, rfl, s1, s2, hb2⟩; replace hb := hb.trans (hb2.mono hb.size); (try replace x5 := x5.below hb2); (try replace x15 := x15.below hb2); (try replace x19 := x19.below hb2); (try replace r1 := r1.below hb2); (try replace r2 := r2.below hb2); (try replace r3 := r3.below hb2); (try replace q1 := q1.below hb2); (try replace q2 := q2.below hb2); (try replace q3 := q3.below hb2); (try replace q4 := q4.below hb2); (try replace rp := rp.below hb2); (try replace rq := rq.below hb2); clear hb2
                     have x32 := BX.new w3 (o0 && e0) (o1 && e1)
                     have hb2 : Below w3.heap.size w3 (w3.alloc (.cells #[.bool (o0 && e0), .bool (o1 && e1)] 46)) := (Below.refl _ w3).alloc (Nat.le_refl _) _
                     replace hb := hb.trans (hb2.mono hb.size); (try replace x5 := x5.below hb2); (try replace x15 := x15.below hb2); (try replace x19 := x19.below hb2); (try replace r1 := r1.below hb2); (try replace r2 := r2.below hb2); (try replace r3 := r3.below hb2); (try replace q1 := q1.below hb2); (try replace q2 := q2.below hb2); (try replace q3 := q3.below hb2); (try replace q4 := q4.below hb2); (try replace rp := rp.below hb2); (try replace rq := rq.below hb2); (try replace s1 := s1.below hb2); (try replace s2 := s2.below hb2); clear hb2)
                  | (go_at_call 18; first
                    | ((with_reducible refine (SPA.out _ _ _ s1 rp).mono ?_); rintro e w4 ⟨rfl, hb2⟩; replace hb := hb.trans (hb2.mono hb.size); (try replace x5 := x5.below hb2); (try replace x15 := x15.below hb2); (try replace x19 := x19.below hb2); (try replace r1 := r1.below hb2); (try replace r2 := r2.below hb2); (try replace r3 := r3.below hb2); (try replace q1 := q1.below hb2); (try replace q2 := q2.below hb2); (try replace q3 := q3.below hb2); (try replace q4 := q4.below hb2); (try replace rq := rq.below hb2); (try replace s2 := s2.below hb2); (try replace x32 := x32.below hb2); clear hb2; clear s1 rp)
                    | ((with_reducible refine (SQA.out _ _ _ s2 rq).mono ?_); rintro e w4 ⟨rfl, hb2⟩; replace hb := hb.trans (hb2.mono hb.size); (try replace x5 := x5.below hb2); (try replace x15 := x15.below hb2); (try replace x19 := x19.below hb2); (try replace r1 := r1.below hb2); (try replace r2 := r2.below hb2); (try replace r3 := r3.below hb2); (try replace q1 := q1.below hb2); (try replace q2 := q2.below hb2); (try replace q3 := q3.below hb2); (try replace q4 := q4.below hb2); (try replace x32 := x32.below hb2); clear hb2; clear s2 rq; have l0 := x32.1; have l1 := x32.2.1)))
                go_roundw
                case rel => exact ⟨1, by omega, by omega, rfl, ⟨x5, x15, x19⟩, ⟨r1, r2, r3⟩, ⟨q1, q2, q3, q4⟩, hb⟩
                case measure => simp [intOf]
            · as_aux_lemma =>
                clear h22
                go_upto_region 17 with (first | (go_at_call 30; first
                    | ((with_reducible refine (A1.out _ _ _ q1 q3).mono ?_); rintro e w3 ⟨pp, rfl, rp, hb2⟩; replace hb := hb.trans (hb2.mono hb.size); (try replace x5 := x5.below hb2); (try replace x15 := x15.below hb2); (try replace x19 := x19.below hb2); (try replace r1 := r1.below hb2); (try replace r2 := r2.below hb2); (try replace r3 := r3.below hb2); (try replace q1 := q1.below hb2); (try replace q2 := q2.below hb2); (try replace q3 := q3.below hb2); (try replace q4 := q4.below hb2); clear hb2)
                    | ((with_reducible refine (A2.out _ _ _ q2 q4).mono ?_); rintro e w3 ⟨qq, rfl, rq, hb2⟩; replace hb := hb.trans (hb2.mono hb.size); (try replace x5 := x5.below hb2); (try replace x15 := x15.below hb2); (try replace x19 := x19.below hb2); (try replace r1 := r1.below hb2); (try replace r2 := r2.below hb2); (try replace r3 := r3.below hb2); (try replace q1 := q1.below hb2); (try replace q2 := q2.below hb2); (try replace q3 := q3.below hb2); (try replace q4 := q4.below hb2); (try replace rp := rp.below hb2); clear hb2; have i0 := x5.1; have i1 := x5.2.1; have j0 := x15.1; have j1 := x15.2.1; have k0 := x19.1; have k1 := x19.2.1)))
                go_cut [22, 23, 24, 25] from 98 to 224 (fun s22 s23 s24 s25 wx => s22 = a2 ∧ s23 = .bool (c0 || c1) ∧ s24 = .bool (o0 || e0) ∧ s25 = .bool (o1 || e1) ∧ Below w3.heap.size w3 wx)
                case first =>
                  clear x5 x15 x19 r1 r2 r3 q1 q2 q3 q4 rp rq hb SPA SQA SPO SQO SPN SQN A1 A2 O1 O2 N1 N2 MA MO MN AW
                  cases c0 <;> cases o0 <;> cases o1 <;> (as_aux_lemma => go_quiet (fail); go_wp2; go_meet; exact ⟨rfl, rfl, rfl, rfl, below_drewN _ _⟩)
                case rest =>
                  obtain ⟨h22, rfl, rfl, rfl, hb2⟩ := hcut
                  clear i0 i1 j0 j1 k0 k1
                  clear rp rq
                  replace hb := hb.trans (hb2.mono hb.size); (try replace x5 := x5.below hb2); (try replace x15 := x15.below hb2); (try replace x19 := x19.below hb2); (try replace r1 := r1.below hb2); (try replace r2 := r2.below hb2); (try replace r3 := r3.below hb2); (try replace q1 := q1.below hb2); (try replace q2 := q2.below hb2); (try replace q3 := q3.below hb2); (try replace q4 := q4.below hb2); clear hb2
                  subst h22
                  go_wp2_with (first
                    | (go_at_call 32; first
                        | ((with_reducible refine (O1.out _ _ _ q1 q3).mono ?_); rintro e w3 ⟨pp, rfl, rp, hb2⟩; replace hb := hb.trans (hb2.mono hb.size); (try replace x5 := x5.below hb2); (try replace x15 := x15.below hb2); (try replace x19 := x19.below hb2); (try replace r1 := r1.below hb2); (try replace r2 := r2.below hb2); (try replace r3 := r3.below hb2); (try replace q1 := q1.below hb2); (try replace q2 := q2.below hb2); (try replace q3 := q3.below hb2); (try replace q4 := q4.below hb2); clear hb2)
                        | ((with_reducible refine (O2.out _ _ _ q2 q4).mono ?_); rintro e w3 ⟨qq, rfl, rq, hb2⟩; replace hb := hb.trans (hb2.mono hb.size); (try replace x5 := x5.below hb2); (try replace x15 := x15.below hb2); (try replace x19 := x19.below hb2); (try replace r1 := r1.below hb2); (try replace r2 := r2.below hb2); (try replace r3 := r3.below hb2); (try replace q1 := q1.below hb2); (try replace q2 := q2.below hb2); (try replace q3 := q3.below hb2); (try replace q4 := q4.below hb2); (try replace rp := rp.below hb2); clear hb2))
                    | (go_at_call 36; (with_reducible refine (MO.out _ _ r2).mono ?_); rintro e w3 ⟨u4, d4, rfl, s1, s2, hb2⟩; replace hb := hb.trans (hb2.mono hb.size); (try replace x5 := x5.below hb2); (try replace x15 := x15.below hb2); (try replace x19 := x19.below hb2); (try replace r1 := r1.below hb2); (try replace r2 := r2.below hb2); (try replace r3 := r3.below hb2); (try replace q1 := q1.below hb2); (try replace q2 := q2.below hb2); (try replace q3 := q3.below hb2); (try replace q4 := q4.below hb2); (try replace rp := rp.below hb2); (try replace rq := rq.below hb2); clear hb2
                       have x32 := BX.new w3 (o0 || e0) (o1 || e1)
                       have hb2 : Below w3.heap.size w3 (w3.alloc (.cells #[.bool (o0 || e0), .bool (o1 || e1)] 46)) := (Below.refl _ w3).alloc (Nat.le_refl _) _
                       replace hb := hb.trans (hb2.mono hb.size); (try replace x5 := x5.below hb2); (try replace x15 := x15.below hb2); (try replace x19 := x19.below hb2); (try replace r1 := r1.below hb2); (try replace r2 := r2.below hb2); (try replace r3 := r3.below hb2); (try replace q1 := q1.below hb2); (try replace q2 := q2.below hb2); (try replace q3 := q3.below hb2); (try replace q4 := q4.below hb2); (try replace rp := rp.below hb2); (try replace rq := rq.below hb2); (try replace s1 := s1.below hb2); (try replace s2 := s2.below hb2); clear hb2)
                    | (go_at_call 18; first
                      | ((with_reducible refine (SPO.out _ _ _ s1 rp).mono ?_); rintro e w4 ⟨rfl, hb2⟩; replace hb := hb.trans (hb2.mono hb.size); (try replace x5 := x5.below hb2); (try replace x15 := x15.below hb2); (try replace x19 := x19.below hb2); (try replace r1 := r1.below hb2); (try replace r2 := r2.below hb2); (try replace r3 := r3.below hb2); (try replace q1 := q1.below hb2); (try replace q2 := q2.below hb2); (try replace q3 := q3.below hb2); (try replace q4 := q4.below hb2); (try replace rq := rq.below hb2); (try replace s2 := s2.below hb2); (try replace x32 := x32.below hb2); clear hb2; clear s1 rp)
                      | ((with_reducible refine (SQO.out _ _ _ s2 rq).mono ?_); rintro e w4 ⟨rfl, hb2⟩; replace hb := hb.trans (hb2.mono hb.size); (try replace x5 := x5.below hb2); (try replace x15 := x15.below hb2); (try replace x19 := x19.below hb2); (try replace r1 := r1.below hb2); (try replace r2 := r2.below hb2); (try replace r3 := r3.below hb2); (try replace q1 := q1.below hb2); (try replace q2 := q2.below hb2); (try replace q3 := q3.below hb2); (try replace q4 := q4.below hb2); (try replace x32 := x32.below hb2); clear hb2; clear s2 rq; have l0 := x32.1; have l1 := x32.2.1)))
                  go_roundw
                  case rel => exact ⟨2, by omega, by omega, rfl, ⟨x5, x15, x19⟩, ⟨r1, r2, r3⟩, ⟨q1, q2, q3, q4⟩, hb⟩
                  case measure => simp [intOf]
            · as_aux_lemma =>
                clear h22
                go_upto_region 21 with (first | (go_at_call 30; first
                    | ((with_reducible refine (A1.out _ _ _ q1 q3).mono ?_); rintro e w3 ⟨pp, rfl, rp, hb2⟩; replace hb := hb.trans (hb2.mono hb.size); (try replace x5 := x5.below hb2); (try replace x15 := x15.below hb2); (try replace x19 := x19.below hb2); (try replace r1 := r1.below hb2); (try replace r2 := r2.below hb2); (try replace r3 := r3.below hb2); (try replace q1 := q1.below hb2); (try replace q2 := q2.below hb2); (try replace q3 := q3.below hb2); (try replace q4 := q4.below hb2); clear hb2)
                    | ((with_reducible refine (A2.out _ _ _ q2 q4).mono ?_); rintro e w3 ⟨qq, rfl, rq, hb2⟩; replace hb := hb.trans (hb2.mono hb.size); (try replace x5 := x5.below hb2); (try replace x15 := x15.below hb2); (try replace x19 := x19.below hb2); (try replace r1 := r1.below hb2); (try replace r2 := r2.below hb2); (try replace r3 := r3.below hb2); (try replace q1 := q1.below hb2); (try replace q2 := q2.below hb2); (try replace q3 := q3.below hb2); (try replace q4 := q4.below hb2); (try replace rp := rp.below hb2); clear hb2; have i0 := x5.1; have i1 := x5.2.1; have j0 := x15.1; have j1 := x15.2.1; have k0 := x19.1; have k1 := x19.2.1)))
                go_cut [22, 23, 24, 25] from 98 to 224 (fun s22 s23 s24 s25 wx => s22 = a3 ∧ s23 = .bool (!c0) ∧ s24 = .bool (!o0) ∧ s25 = .bool (!o1) ∧ Below w3.heap.size w3 wx)
                case first =>
                  clear x5 x15 x19 r1 r2 r3 q1 q2 q3 q4 rp rq hb SPA SQA SPO SQO SPN SQN A1 A2 O1 O2 N1 N2 MA MO MN AW
                  (as_aux_lemma => go_quiet (fail); go_wp2; go_meet; exact ⟨rfl, rfl, rfl, rfl, below_drewN _ _⟩)
                case rest =>
                  obtain ⟨h22, rfl, rfl, rfl, hb2⟩ := hcut
                  clear i0 i1 j0 j1 k0 k1
                  clear rp rq
                  replace hb := hb.trans (hb2.mono hb.size); (try replace x5 := x5.below hb2); (try replace x15 := x15.below hb2); (try replace x19 := x19.below hb2); (try replace r1 := r1.below hb2); (try replace r2 := r2.below hb2); (try replace r3 := r3.below hb2); (try replace q1 := q1.below hb2); (try replace q2 := q2.below hb2); (try replace q3 := q3.below hb2); (try replace q4 := q4.below hb2); clear hb2
                  subst h22
                  go_wp2_with (first
                    | (go_at_call 34; first
                        | ((with_reducible refine (N1.out _ _ q1).mono ?_); rintro e w3 ⟨pp, rfl, rp, hb2⟩; replace hb := hb.trans (hb2.mono hb.size); (try replace x5 := x5.below hb2); (try replace x15 := x15.below hb2); (try replace x19 := x19.below hb2); (try replace r1 := r1.below hb2); (try replace r2 := r2.below hb2); (try replace r3 := r3.below hb2); (try replace q1 := q1.below hb2); (try replace q2 := q2.below hb2); (try replace q3 := q3.below hb2); (try replace q4 := q4.below hb2); clear hb2)
                        | ((with_reducible refine (N2.out _ _ q2).mono ?_); rintro e w3 ⟨qq, rfl, rq, hb2⟩; replace hb := hb.trans (hb2.mono hb.size); (try replace x5 := x5.below hb2); (try replace x15 := x15.below hb2); (try replace x19 := x19.below hb2); (try replace r1 := r1.below hb2); (try replace r2 := r2.below hb2); (try replace r3 := r3.below hb2); (try replace q1 := q1.below hb2); (try replace q2 := q2.below hb2); (try replace q3 := q3.below hb2); (try replace q4 := q4.below hb2); (try replace rp := rp.below hb2); clear hb2))
                    | (go_at_call 36; (with_reducible refine (MN.out _ _ r3).mono ?_); rintro e w3 ⟨u4, d4, rfl, s1, s2, hb2⟩; replace hb := hb.trans (hb2.mono hb.size); (try replace x5 := x5.below hb2); (try replace x15 := x15.below hb2); (try replace x19 := x19.below hb2); (try replace r1 := r1.below hb2); (try replace r2 := r2.below hb2); (try replace r3 := r3.below hb2); (try replace q1 := q1.below hb2); (try replace q2 := q2.below hb2); (try replace q3 := q3.below hb2); (try replace q4 := q4.below hb2); (try replace rp := rp.below hb2); (try replace rq := rq.below hb2); clear hb2
                       have x32 := BX.new w3 (!o0) (!o1)
                       have hb2 : Below w3.heap.size w3 (w3.alloc (.cells #[.bool (!o0), .bool (!o1)] 46)) := (Below.refl _ w3).alloc (Nat.le_refl _) _
                       replace hb := hb.trans (hb2.mono hb.size); (try replace x5 := x5.below hb2); (try replace x15 := x15.below hb2); (try replace x19 := x19.below hb2); (try replace r1 := r1.below hb2); (try replace r2 := r2.below hb2); (try replace r3 := r3.below hb2); (try replace q1 := q1.below hb2); (try replace q2 := q2.below hb2); (try replace q3 := q3.below hb2); (try replace q4 := q4.below hb2); (try replace rp := rp.below hb2); (try replace rq := rq.below hb2); (try replace s1 := s1.below hb2); (try replace s2 := s2.below hb2); clear hb2)
                    | (go_at_call 18; first
                      | ((with_reducible refine (SPN.out _ _ _ s1 rp).mono ?_); rintro e w4 ⟨rfl, hb2⟩; replace hb := hb.trans (hb2.mono hb.size); (try replace x5 := x5.below hb2); (try replace x15 := x15.below hb2); (try replace x19 := x19.below hb2); (try replace r1 := r1.below hb2); (try replace r2 := r2.below hb2); (try replace r3 := r3.below hb2); (try replace q1 := q1.below hb2); (try replace q2 := q2.below hb2); (try replace q3 := q3.below hb2); (try replace q4 := q4.below hb2); (try replace rq := rq.below hb2); (try replace s2 := s2.below hb2); (try replace x32 := x32.below hb2); clear hb2; clear s1 rp)
                      | ((with_reducible refine (SQN.out _ _ _ s2 rq).mono ?_); rintro e w4 ⟨rfl, hb2⟩; replace hb := hb.trans (hb2.mono hb.size); (try replace x5 := x5.below hb2); (try replace x15 := x15.below hb2); (try replace x19 := x19.below hb2); (try replace r1 := r1.below hb2); (try replace r2 := r2.below hb2); (try replace r3 := r3.below hb2); (try replace q1 := q1.below hb2); (try replace q2 := q2.below hb2); (try replace q3 := q3.below hb2); (try replace q4 := q4.below hb2); (try replace x32 := x32.below hb2); clear hb2; clear s2 rq; have l0 := x32.1; have l1 := x32.2.1)))
                  go_roundw
                  case rel => exact ⟨3, by omega, by omega, rfl, ⟨x5, x15, x19⟩, ⟨r1, r2, r3⟩, ⟨q1, q2, q3, q4⟩, hb⟩
                  case measure => simp [intOf]
        · obtain rfl : k = 3 := by omega
          clear x5 x15 x19 r1 r2 r3 q1 q2 q3 q4
          go_wp2_with (go_at_call 11; refine (AW.out _).mono ?_; rintro e w6 ⟨rfl, hb2⟩; replace hb := hb.trans (hb2.mono hb.size); clear hb2)
          go_ret
          exact ⟨rfl, hb⟩
    · have hll : ((xs.length : Int) != (ys.length : Int)) = true := by rw [bne_iff_ne]; omega
      rw [hc] at CK
      obtain ⟨p, c, rfl, _, _⟩ := hv
      obtain ⟨p2, c', rfl, _, _⟩ := hu
      clear hc hl hw hwy
      go_enter Try.func7, Try.ntmps7
      go_wp2_with (first
        | (go_at_call 14; refine CK.out.mono ?_; rintro e w1 ⟨rfl, rfl⟩; clear CK)
        | (go_at_call 11; refine (AW.out _).mono ?_; rintro e w6 ⟨rfl, hb2⟩; replace hb := hb.trans (hb2.mono hb.size); clear hb2))
      go_ret
      exact ⟨rfl, hb⟩
  · have hne : (chk xs.length != 0) = true := by simp [hc]
    generalize chk xs.length = E at *
    clear hc hv hu hw hwy
    go_enter Try.func7, Try.ntmps7
    go_wp2_with (first
      | (go_at_call 14; refine CK.out.mono ?_; rintro e w1 ⟨rfl, rfl⟩; clear CK)
      | (go_at_call 11; refine (AW.out _).mono ?_; rintro e w6 ⟨rfl, hb2⟩; replace hb := hb.trans (hb2.mono hb.size); clear hb2))
    go_ret
    exact ⟨rfl, hb⟩
end Go.Proofs.Ytnegnmjjibhldaa
