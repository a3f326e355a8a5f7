/- MasksMoves. -/
import Derived.Test.YtjckkohmgalabaaZr
namespace Go.Proofs.Ytjckkohmgalabaa
open Go.RowKit
/-- From where the value at i comes, whether the rows were moved or not. -/
def moF (E : Int) (m a b j i : Nat) : Nat := if E = 0 then mvF m a b j i else i
theorem ck_one' {n t m : Nat} {x : Int} (h : clE n t m x = 0) : isM m ∧ (∃ a : Nat, x = a ∧ a < n) := by
  obtain ⟨h1, h2, _⟩ := ck_one h
  exact ⟨h1, h2⟩
theorem cl_at {n t m : Nat} {x : Int} {F : Int} {C1 C2 : List Nat} (hm : isM m) (hn : n = C1.length) (hF : F = clE n t m x) (hC : C2 = if F = 0 then clC m x.toNat C1 else C1) (hw : ∀ v ∈ C1, v < 2 ^ 64) (i : Nat) :
    C2.getD i 0 = if F = 0 ∧ m ≠ 0 ∧ (i : Int) = x then 0 else C1.getD i 0 := by
  by_cases h0 : F = 0
  · obtain ⟨_, a, rfl, ha⟩ := ck_one' (hF.symm.trans h0)
    rw [hC, if_pos h0, Int.toNat_natCast, clC_at hm (by rw [← hn]; exact ha) hw]
    by_cases h1 : m ≠ 0 ∧ i = a
    · rw [if_pos h1, if_pos ⟨h0, h1.1, by rw [h1.2]⟩]
    · rw [if_neg h1, if_neg (fun h => h1 ⟨h.2.1, by omega⟩)]
  · rw [hC, if_neg h0, if_neg (fun h => h0 h.1)]
set_option maxRecDepth 100000 in
set_option maxHeartbeats 8000000 in
theorem moves_any (v : Value) (xs : List Nat) (c : Cq) (w : World) (hv : URow w v xs) (hw : Wf xs) (hc : c.ok) : Calls Try.prog 7 #[v, cqA c] w (TwP w) := by
  have AW := Lib.hid awake_any
  obtain ⟨m0, x, y, k⟩ := c
  obtain ⟨hm, hx, hy, hk⟩ := hc
  unfold cqA
  dsimp only at hm hx hy hk ⊢
  obtain ⟨O, hO⟩ : ∃ O, O = cqO m0 x y k := ⟨_, rfl⟩
  have B0 := Lib.hid (hO ▸ below_alloc w O : Below w.heap.size w (w.alloc (cqO m0 x y k)))
  have Y0 := Lib.hid (cq_cells (heap_alloc_new w (cqO m0 x y k)))
  clear hO
  have H0 := Lib.hid (hv.below (below_alloc w (cqO m0 x y k)))
  obtain ⟨q, cp, rfl, _⟩ := hv
  by_cases hf : 200 < xs.length
  · have t1 : decide ((200 : Int) < (xs.length : Int)) = true := decide_eq_true (by omega)
    clear hw hm hx hy hk hf
    go_enter Try.func7, Try.ntmps7
    go_wp2_with (first
      | (go_at_call 19; (with_reducible refine (AW.out _).mono ?_); rintro e w13 ⟨rfl, hb13⟩))
    go_ret
    exact ⟨rfl, B0.out.trans (hb13.mono B0.out.size)⟩
  have t1 : decide ((200 : Int) < (xs.length : Int)) = false := decide_eq_false (by omega)
  have AR := Lib.hid (arena_any _ xs _ H0.out hw (by omega))
  unfold ArenaP at AR
  have hC : (arC xs).length = max xs.length 1 := by unfold arC; exact padC_len (Nat.le_refl _) (by unfold arN; omega)
  have hCw : ∀ v ∈ arC xs, v < 2 ^ 64 := by
    intro v hv
    unfold arC padC at hv
    rcases List.mem_append.1 hv with h1 | h1
    · exact hw v (List.mem_of_mem_take h1)
    · rw [(List.mem_replicate.1 h1).2]; decide
  obtain ⟨C, hCC⟩ : ∃ C, C = arC xs := ⟨_, rfl⟩
  obtain ⟨T, hTT⟩ : ∃ T, T = arT xs := ⟨_, rfl⟩
  rw [← hCC] at hC hCw
  simp only [← hCC, ← hTT] at AR
  clear hCC hTT
  obtain ⟨l, hl⟩ : ∃ l, l = xs.length := ⟨_, rfl⟩
  obtain ⟨n, hn⟩ : ∃ n, n = C.length := ⟨_, rfl⟩
  rw [← hl] at t1 AR hC ⊢
  obtain ⟨m, hmm⟩ : ∃ m, m = ofM m0 := ⟨_, rfl⟩
  have OF := Lib.hid (rof_row m0 hm)
  rw [← hmm] at OF
  have hM : isM m := hmm ▸ ofM_mask m0
  have NN := Lib.hid hn
  have NB : Hid (n ≤ 200) := Lib.hid (by omega)
  have HM := Lib.hid hM
  obtain ⟨E, hE⟩ : ∃ E, E = rowE C.length T.length m 3 x y k := ⟨_, rfl⟩
  obtain ⟨C1, hC1⟩ : ∃ c, c = if E = 0 then mvRC m x.toNat y.toNat C k.toNat else C := ⟨_, rfl⟩
  obtain ⟨T1, hT1⟩ : ∃ t, t = if E = 0 then T ++ mvRT x.toNat y.toNat k.toNat else T := ⟨_, rfl⟩
  have SW := Lib.hid (fun (w0 W : World) (X : Nat → Prop) (pa pb : Nat) (h : Pr w0 W X pa pb C [] T C [] T) => pa_act h fun F ar => MoveRows_any ar m x y k (isM_lt hM) hx hy hk)
  simp only [← hE, ← hC1, ← hT1] at SW
  have HE := Lib.hid hE
  have hL1 : n = C1.length := by rw [hC1, hn]; split; exact (mvRC_len ..).symm; rfl
  have L1 := Lib.hid hL1
  have hC1w : ∀ v ∈ C1, v < 2 ^ 64 := by rw [hC1]; split; exact mvRC_w hCw _; exact hCw
  obtain ⟨F, hF⟩ : ∃ F, F = clE C1.length T1.length m x := ⟨_, rfl⟩
  obtain ⟨C2, hC2⟩ : ∃ c, c = if F = 0 then clC m x.toNat C1 else C1 := ⟨_, rfl⟩
  obtain ⟨T2, hT2⟩ : ∃ t, t = if F = 0 then T1 ++ clT x.toNat else T1 := ⟨_, rfl⟩
  have CLR := Lib.hid (fun (w0 W : World) (X : Nat → Prop) (pa pb : Nat) (h : Pr w0 W X pa pb C1 [] T1 C [] T) => pa_act h fun F ar => Clear_any ar m x (isM_lt hM) hx)
  simp only [← hF, ← hC2, ← hT2] at CLR
  have L2 := Lib.hid (show n = C2.length by rw [hC2, hL1]; split; exact (clC_len ..).symm; rfl)
  have HCC := Lib.hid (fun i => cl_at hM hL1 (by rw [hF, hL1] : F = clE n T1.length m x) hC2 hC1w i)
  obtain ⟨ff, hff⟩ : ∃ g : Nat → Nat, g = moF E m x.toNat y.toNat k.toNat := ⟨_, rfl⟩
  have HFF := Lib.hid hff
  have y0 := Y0.out.1
  have y1 := Y0.out.2.1
  have y2 := Y0.out.2.2.1
  have y3 := Y0.out.2.2.2
  by_cases h0 : E = 0
  case neg =>
    have HE0 := Lib.hid h0
    have FF : Hid (∀ i, i < n → C1.getD i 0 = C.getD (ff i) 0 ∧ ff i < n) := Lib.hid fun i hi => by
      rw [hff, hC1, if_neg h0]; unfold moF; rw [if_neg h0]; exact ⟨rfl, hi⟩
    clear hw hm hx hy hk hf hC hl hn hmm hM hE hC1 hT1 H0 hff hF hC2 hT2 hL1 hC1w hCw h0
    go_enter Try.func7, Try.ntmps7
    go_wp2_with (first
      | (go_at_call 20; (with_reducible refine (AR.out).mono ?_); rintro e w1 ⟨pa, pb, rfl, hp⟩; have P1 := Lib.hid hp; obtain ⟨z0, z1, z2, z3⟩ := cq_at Y0.out P1.out.bel; clear hp)
      | (go_at_call 30; (with_reducible refine (pa_cells2 P1.out NN.out).mono ?_); rintro e w2 ⟨g2, c2, rfl, hr, hc2, hp, _⟩; have P2 := Lib.hid hp; have R2 := Lib.hid hr; obtain ⟨z0, z1, z2, z3⟩ := cq_at Y0.out P2.out.bel; clear hp hr)
      | (go_at_call 10; (with_reducible refine (OF.out _).mono ?_); rintro e w' ⟨rfl, rfl⟩)
      | (go_at_call 27; (with_reducible refine (SW.out _ _ _ _ _ P2.out).mono ?_); rintro e w3 ⟨rfl, hp, hX⟩; have P3 := Lib.hid hp; have R3 := Lib.hid (R2.out.keep (hX g2 (.inr rfl))); obtain ⟨z0, z1, z2, z3⟩ := cq_at Y0.out P3.out.bel; clear hp hX)
      | (go_at_call 30; (with_reducible refine (pa_cells2 P3.out L1.out).mono ?_); rintro e w4 ⟨g4, c4, rfl, hr, hc4, hp, hX⟩; have P4 := Lib.hid hp; have R4 := Lib.hid hr; have S4 := Lib.hid (R3.out.keep (hX g2 (.inr rfl))); clear hp hr hX))
    clear P1 P2 P3 R2 R3 AR SW OF y0 y1 y2 y3
    try clear z0 z1 z2 z3
    have Z0 := Lib.hid (cq_at Y0.out P4.out.bel)
    go_loopw [11] (fun i wr => ∃ k : Nat, k ≤ n ∧ i = .int .i64 (k : Int) ∧ ∃ d, wr = w4.drewN d) (fun i _ => n - (intOf i).toNat)
    case atStart => exact ⟨0, Nat.zero_le _, rfl, 0, rfl⟩
    case round =>
      obtain ⟨i, hi, rfl, d, rfl⟩ := hrel
      have y0 := Z0.out.1
      have y1 := Z0.out.2.1
      have y2 := Z0.out.2.2.1
      have y3 := Z0.out.2.2.2
      have hn200 := NB.out
      by_cases hlt : i < n
      · have t1 : decide ((i : Int) < (n : Int)) = true := decide_eq_true (by omega)
        have t1' : (i : Int) < (n : Int) := by omega
        obtain ⟨f1, f2⟩ := FF.out i hlt
        obtain ⟨f, hf⟩ : ∃ f, f = ff i := ⟨_, rfl⟩
        rw [← hf] at f1 f2
        have HF := Lib.hid hf
        have x1 := row_at S4.out f (by rw [← NN.out]; exact f2)
        have x2 := row_at R4.out i (by rw [← L1.out]; exact hlt)
        rw [f1] at x2
        have u1 : decide ((f : Int) < 0) = false := decide_eq_false (by omega)
        have u2 : decide ((f : Int) ≥ (n : Int)) = false := decide_eq_false (by omega)
        have u2' : decide ((n : Int) ≤ (f : Int)) = false := decide_eq_false (by omega)
        have u2n : decide (n ≤ f) = false := decide_eq_false (by omega)
        have u4' : (f : Int) < (n : Int) := by omega
        obtain ⟨vv, hvv⟩ : ∃ z, z = C.getD f 0 := ⟨_, rfl⟩
        rw [← hvv] at x1 x2
        clear hvv f1 hf Z0 NB P4 R4 S4 FF AW CLR HCC
        have e0 : (E == 0) = false := by rw [beq_eq_false_iff_ne]; exact HE0.out
        have hfi : f = i := by rw [HF.out, HFF.out]; exact if_neg HE0.out
        clear HF HFF
        obtain rfl := hfi.symm
        go_wp2
        go_quiet (fail)
        go_wp2
        go_roundw
        case rel => exact ⟨i + 1, by omega, by go_num, _, rfl⟩
        case measure => simp [intOf]; omega
      · obtain rfl : i = n := by omega
        have t1 : decide ((i : Int) < (i : Int)) = false := decide_eq_false (by omega)
        have P5 := Lib.hid (P4.out.below (below_drewN (Below.refl _ w4) d))
        go_wp2_with (first
          | (go_at_call 25; (with_reducible refine (CLR.out _ _ _ _ _ P5.out).mono ?_); rintro e w5 ⟨rfl, hp, hX⟩; have P6 := Lib.hid hp; have R5 := Lib.hid ((R4.out.drewN d).keep (hX g4 (.inr rfl))); clear hp hX)
          | (go_at_call 30; (with_reducible refine (pa_cells2 P6.out L2.out).mono ?_); rintro e w6 ⟨g6, c6, rfl, hr, hc6, hp, hX⟩; have P7 := Lib.hid hp; have R7 := Lib.hid hr; have S7 := Lib.hid (R5.out.keep (hX g4 (.inr rfl))); clear hp hr hX))
        have V0 := Lib.hid (cq_at Y0.out P7.out.bel).2.1
        clear P5 P6 R5 P4 R4 S4 Z0 CLR y0 y1 y2 y3 FF
        have HCN := Lib.hid HCC.out
        clear HCC
        obtain ⟨n, hni⟩ : ∃ n, n = i := ⟨_, rfl⟩
        subst hni
        go_loopw [15] (fun q wr => ∃ k : Nat, k ≤ n ∧ q = .int .i64 (k : Int) ∧ ∃ d, wr = w6.drewN d) (fun q _ => n - (intOf q).toNat)
        case atStart => exact ⟨0, Nat.zero_le _, rfl, 0, rfl⟩
        case round =>
          obtain ⟨i, hi2, rfl, d, rfl⟩ := hrel
          by_cases hlt : i < n
          · have t1 : decide ((i : Int) < (n : Int)) = true := decide_eq_true (by omega)
            have t1' : (i : Int) < (n : Int) := by omega
            have x1 := row_at S7.out i (by rw [← L1.out]; exact hlt)
            have x2 := row_at R7.out i (by rw [← L2.out]; exact hlt)
            rw [HCN.out i] at x2
            have v1 := V0.out
            have hCAS := (Classical.em (F = 0))
            obtain ⟨vv, hvv⟩ : ∃ z, z = C1.getD i 0 := ⟨_, rfl⟩
            rw [← hvv] at x1 x2
            clear hvv P7 R7 S7 HCN AW NB hlt hCAS
            by_cases hF : F = 0
            · have e0 : (F == 0) = true := by rw [hF]; rfl
              by_cases hm : m = 0
              · rw [if_neg (fun h => h.2.1 hm)] at x2
                have e1 : ((m : Int) != 0) = false := by rw [hm]; rfl
                clear hF hm
                go_wp2
                go_quiet (fail)
                go_wp2
                go_roundw
                case rel => exact ⟨i + 1, by omega, by go_num, _, rfl⟩
                case measure => simp [intOf]; omega
              · have e1 : ((m : Int) != 0) = true := by rw [bne_iff_ne]; omega
                by_cases hx : (i : Int) = x
                · rw [if_pos ⟨hF, hm, hx⟩] at x2
                  have e2 : ((i : Int) == x) = true := by rw [beq_iff_eq]; exact hx
                  skip
                  clear hF hm hx
                  go_wp2
                  go_roundw
                  case rel => exact ⟨i + 1, by omega, by go_num, _, rfl⟩
                  case measure => simp [intOf]; omega
                · rw [if_neg (fun h => hx h.2.2)] at x2
                  have e2 : ((i : Int) == x) = false := by rw [beq_eq_false_iff_ne]; exact hx
                  skip
                  clear hF hm hx
                  go_wp2
                  go_quiet (fail)
                  go_wp2
                  go_roundw
                  case rel => exact ⟨i + 1, by omega, by go_num, _, rfl⟩
                  case measure => simp [intOf]; omega
            · rw [if_neg (fun h => hF h.1)] at x2
              have e0 : (F == 0) = false := by rw [beq_eq_false_iff_ne]; exact hF
              clear hF
              go_wp2
              go_quiet (fail)
              go_wp2
              go_roundw
              case rel => exact ⟨i + 1, by omega, by go_num, _, rfl⟩
              case measure => simp [intOf]; omega
          · obtain rfl : i = n := by omega
            have t1 : decide ((i : Int) < (i : Int)) = false := decide_eq_false (by omega)
            have P8 := Lib.hid (P7.out.below (below_drewN (Below.refl _ w6) d))
            go_wp2_with (first
              | (go_at_call 19; (with_reducible refine (AW.out _).mono ?_); rintro e w13 ⟨rfl, hb13⟩; have P9 := Lib.hid (P8.out.below hb13); clear hb13))
            go_ret
            exact ⟨rfl, B0.out.trans (P9.out.bel.mono B0.out.size)⟩
  case pos =>
    subst h0
    obtain ⟨_, ⟨j, hj, hj1, hj2, a, ha0, ha, b, hb0, hb, hd⟩, _⟩ := row_ok HE.out.symm
    subst hj; subst ha0; subst hb0
    simp only [Int.toNat_natCast] at hff hC1 HFF
    have GD := Lib.hid (And.intro hd (And.intro ha (And.intro hb (And.intro hj1 hj2))))
    have FF : Hid (∀ i, i < n → C1.getD i 0 = C.getD (ff i) 0 ∧ ff i < n) := Lib.hid fun i hi => by
      rw [hff, hC1, if_pos (by trivial)]; unfold moF; rw [if_pos (by trivial), hn]; exact mvF_at hM hd ha hb hCw i (by rw [← hn]; exact hi)
    clear hw hm hx hy hk hf hC hl hn hmm hM hE hC1 hT1 H0 hff hF hC2 hT2 hL1 hC1w hCw hd ha hb hj1 hj2
    go_enter Try.func7, Try.ntmps7
    go_wp2_with (first
      | (go_at_call 20; (with_reducible refine (AR.out).mono ?_); rintro e w1 ⟨pa, pb, rfl, hp⟩; have P1 := Lib.hid hp; obtain ⟨z0, z1, z2, z3⟩ := cq_at Y0.out P1.out.bel; clear hp)
      | (go_at_call 30; (with_reducible refine (pa_cells2 P1.out NN.out).mono ?_); rintro e w2 ⟨g2, c2, rfl, hr, hc2, hp, _⟩; have P2 := Lib.hid hp; have R2 := Lib.hid hr; obtain ⟨z0, z1, z2, z3⟩ := cq_at Y0.out P2.out.bel; clear hp hr)
      | (go_at_call 10; (with_reducible refine (OF.out _).mono ?_); rintro e w' ⟨rfl, rfl⟩)
      | (go_at_call 27; (with_reducible refine (SW.out _ _ _ _ _ P2.out).mono ?_); rintro e w3 ⟨rfl, hp, hX⟩; have P3 := Lib.hid hp; have R3 := Lib.hid (R2.out.keep (hX g2 (.inr rfl))); obtain ⟨z0, z1, z2, z3⟩ := cq_at Y0.out P3.out.bel; clear hp hX)
      | (go_at_call 30; (with_reducible refine (pa_cells2 P3.out L1.out).mono ?_); rintro e w4 ⟨g4, c4, rfl, hr, hc4, hp, hX⟩; have P4 := Lib.hid hp; have R4 := Lib.hid hr; have S4 := Lib.hid (R3.out.keep (hX g2 (.inr rfl))); clear hp hr hX))
    clear P1 P2 P3 R2 R3 AR SW OF y0 y1 y2 y3
    try clear z0 z1 z2 z3
    have Z0 := Lib.hid (cq_at Y0.out P4.out.bel)
    go_loopw [11] (fun i wr => ∃ k : Nat, k ≤ n ∧ i = .int .i64 (k : Int) ∧ ∃ d, wr = w4.drewN d) (fun i _ => n - (intOf i).toNat)
    case atStart => exact ⟨0, Nat.zero_le _, rfl, 0, rfl⟩
    case round =>
      obtain ⟨i, hi, rfl, d, rfl⟩ := hrel
      have y0 := Z0.out.1
      have y1 := Z0.out.2.1
      have y2 := Z0.out.2.2.1
      have y3 := Z0.out.2.2.2
      have hn200 := NB.out
      by_cases hlt : i < n
      · have t1 : decide ((i : Int) < (n : Int)) = true := decide_eq_true (by omega)
        have t1' : (i : Int) < (n : Int) := by omega
        obtain ⟨f1, f2⟩ := FF.out i hlt
        obtain ⟨f, hf⟩ : ∃ f, f = ff i := ⟨_, rfl⟩
        rw [← hf] at f1 f2
        have HF := Lib.hid hf
        have x1 := row_at S4.out f (by rw [← NN.out]; exact f2)
        have x2 := row_at R4.out i (by rw [← L1.out]; exact hlt)
        rw [f1] at x2
        have u1 : decide ((f : Int) < 0) = false := decide_eq_false (by omega)
        have u2 : decide ((f : Int) ≥ (n : Int)) = false := decide_eq_false (by omega)
        have u2' : decide ((n : Int) ≤ (f : Int)) = false := decide_eq_false (by omega)
        have u2n : decide (n ≤ f) = false := decide_eq_false (by omega)
        have u4' : (f : Int) < (n : Int) := by omega
        obtain ⟨vv, hvv⟩ : ∃ z, z = C.getD f 0 := ⟨_, rfl⟩
        rw [← hvv] at x1 x2
        clear hvv f1 hf Z0 NB P4 R4 S4 FF AW CLR HCC
        have hfi : f = mvF m a b j i := by rw [HF.out, HFF.out]; exact if_pos rfl
        clear HF HFF
        obtain ⟨hd, ha, hb, hj1, hj2⟩ := GD.out
        rw [← NN.out] at ha hb
        unfold mvF at hfi
        rcases HM.out with hm0 | hm1
        · have e1 : ((m : Int) != 0) = false := by rw [hm0]; rfl
          rw [if_pos hm0] at hfi
          clear hm0
          obtain rfl := hfi.symm
          go_wp2
          go_quiet (fail)
          go_wp2
          go_roundw
          case rel => exact ⟨i + 1, by omega, by go_num, _, rfl⟩
          case measure => simp [intOf]; omega
        · have e1 : ((m : Int) != 0) = true := by rw [hm1]; rfl
          rw [if_neg (by rw [hm1]; decide)] at hfi
          have e2 : IntKind.i64.wrap ((b : Int) + (j : Int)) = ((b + j : Nat) : Int) := by rw [IntKind.wrap_i64]; omega
          obtain ⟨bj, hbj⟩ : ∃ z, z = b + j := ⟨_, rfl⟩
          rw [← hbj] at e2 hfi
          clear hm1
          by_cases c3 : b ≤ i
          · have t3 : decide ((i : Int) ≥ (b : Int)) = true := decide_eq_true (by omega)
            have t3' : decide ((b : Int) ≤ (i : Int)) = true := decide_eq_true (by omega)
            have n3 : decide (b ≤ i) = true := decide_eq_true c3
            by_cases c4 : i < bj
            · have t4 : decide ((i : Int) < (bj : Int)) = true := decide_eq_true (by omega)
              have n4 : decide (i < bj) = true := decide_eq_true c4
              rw [if_pos ⟨c3, c4⟩] at hfi
              have q1 : IntKind.i64.wrap ((i : Int) - (b : Int)) = ((i - b : Nat) : Int) := by rw [IntKind.wrap_i64]; omega
              have q2 : IntKind.i64.wrap (((i - b : Nat) : Int) + (a : Int)) = (f : Int) := by rw [hfi, IntKind.wrap_i64]; omega
              obtain ⟨ib, hib⟩ : ∃ z, z = i - b := ⟨_, rfl⟩
              rw [← hib] at q1 q2
              clear hfi hbj hib c3 c4
              go_wp2
              go_quiet (fail)
              go_wp2
              go_roundw
              case rel => exact ⟨i + 1, by omega, by go_num, _, rfl⟩
              case measure => simp [intOf]; omega
            · have t4 : decide ((i : Int) < (bj : Int)) = false := decide_eq_false (by omega)
              have n4 : decide (i < bj) = false := decide_eq_false c4
              rw [if_neg (fun h => c4 h.2)] at hfi
              clear hbj c3 c4
              obtain rfl := hfi.symm
              go_wp2
              go_quiet (fail)
              go_wp2
              go_roundw
              case rel => exact ⟨i + 1, by omega, by go_num, _, rfl⟩
              case measure => simp [intOf]; omega
          · have t3 : decide ((i : Int) ≥ (b : Int)) = false := decide_eq_false (by omega)
            have t3' : decide ((b : Int) ≤ (i : Int)) = false := decide_eq_false (by omega)
            have n3 : decide (b ≤ i) = false := decide_eq_false c3
            rw [if_neg (fun h => c3 h.1)] at hfi
            clear hbj c3
            obtain rfl := hfi.symm
            go_wp2
            go_quiet (fail)
            go_wp2
            go_roundw
            case rel => exact ⟨i + 1, by omega, by go_num, _, rfl⟩
            case measure => simp [intOf]; omega
      · obtain rfl : i = n := by omega
        have t1 : decide ((i : Int) < (i : Int)) = false := decide_eq_false (by omega)
        have P5 := Lib.hid (P4.out.below (below_drewN (Below.refl _ w4) d))
        go_wp2_with (first
          | (go_at_call 25; (with_reducible refine (CLR.out _ _ _ _ _ P5.out).mono ?_); rintro e w5 ⟨rfl, hp, hX⟩; have P6 := Lib.hid hp; have R5 := Lib.hid ((R4.out.drewN d).keep (hX g4 (.inr rfl))); clear hp hX)
          | (go_at_call 30; (with_reducible refine (pa_cells2 P6.out L2.out).mono ?_); rintro e w6 ⟨g6, c6, rfl, hr, hc6, hp, hX⟩; have P7 := Lib.hid hp; have R7 := Lib.hid hr; have S7 := Lib.hid (R5.out.keep (hX g4 (.inr rfl))); clear hp hr hX))
        have V0 := Lib.hid (cq_at Y0.out P7.out.bel).2.1
        clear P5 P6 R5 P4 R4 S4 Z0 CLR y0 y1 y2 y3 FF
        have HCN := Lib.hid HCC.out
        clear HCC
        obtain ⟨n, hni⟩ : ∃ n, n = i := ⟨_, rfl⟩
        subst hni
        go_loopw [15] (fun q wr => ∃ k : Nat, k ≤ n ∧ q = .int .i64 (k : Int) ∧ ∃ d, wr = w6.drewN d) (fun q _ => n - (intOf q).toNat)
        case atStart => exact ⟨0, Nat.zero_le _, rfl, 0, rfl⟩
        case round =>
          obtain ⟨i, hi2, rfl, d, rfl⟩ := hrel
          by_cases hlt : i < n
          · have t1 : decide ((i : Int) < (n : Int)) = true := decide_eq_true (by omega)
            have t1' : (i : Int) < (n : Int) := by omega
            have x1 := row_at S7.out i (by rw [← L1.out]; exact hlt)
            have x2 := row_at R7.out i (by rw [← L2.out]; exact hlt)
            rw [HCN.out i] at x2
            have v1 := V0.out
            have hCAS := (Classical.em (F = 0))
            obtain ⟨vv, hvv⟩ : ∃ z, z = C1.getD i 0 := ⟨_, rfl⟩
            rw [← hvv] at x1 x2
            clear hvv P7 R7 S7 HCN AW NB hlt hCAS
            by_cases hF : F = 0
            · have e0 : (F == 0) = true := by rw [hF]; rfl
              by_cases hm : m = 0
              · rw [if_neg (fun h => h.2.1 hm)] at x2
                have e1 : ((m : Int) != 0) = false := by rw [hm]; rfl
                clear hF hm
                go_wp2
                go_quiet (fail)
                go_wp2
                go_roundw
                case rel => exact ⟨i + 1, by omega, by go_num, _, rfl⟩
                case measure => simp [intOf]; omega
              · have e1 : ((m : Int) != 0) = true := by rw [bne_iff_ne]; omega
                by_cases hx : (i : Int) = (a : Int)
                · rw [if_pos ⟨hF, hm, hx⟩] at x2
                  have e2 : ((i : Int) == (a : Int)) = true := by rw [beq_iff_eq]; exact hx
                  (have e3 : (i == a) = true := by rw [beq_iff_eq]; omega)
                  clear hF hm hx
                  go_wp2
                  go_roundw
                  case rel => exact ⟨i + 1, by omega, by go_num, _, rfl⟩
                  case measure => simp [intOf]; omega
                · rw [if_neg (fun h => hx h.2.2)] at x2
                  have e2 : ((i : Int) == (a : Int)) = false := by rw [beq_eq_false_iff_ne]; exact hx
                  (have e3 : (i == a) = false := by rw [beq_eq_false_iff_ne]; omega)
                  clear hF hm hx
                  go_wp2
                  go_quiet (fail)
                  go_wp2
                  go_roundw
                  case rel => exact ⟨i + 1, by omega, by go_num, _, rfl⟩
                  case measure => simp [intOf]; omega
            · rw [if_neg (fun h => hF h.1)] at x2
              have e0 : (F == 0) = false := by rw [beq_eq_false_iff_ne]; exact hF
              clear hF
              go_wp2
              go_quiet (fail)
              go_wp2
              go_roundw
              case rel => exact ⟨i + 1, by omega, by go_num, _, rfl⟩
              case measure => simp [intOf]; omega
          · obtain rfl : i = n := by omega
            have t1 : decide ((i : Int) < (i : Int)) = false := decide_eq_false (by omega)
            have P8 := Lib.hid (P7.out.below (below_drewN (Below.refl _ w6) d))
            go_wp2_with (first
              | (go_at_call 19; (with_reducible refine (AW.out _).mono ?_); rintro e w13 ⟨rfl, hb13⟩; have P9 := Lib.hid (P8.out.below hb13); clear hb13))
            go_ret
            exact ⟨rfl, B0.out.trans (P9.out.bel.mono B0.out.size)⟩
end Go.Proofs.Ytjckkohmgalabaa
