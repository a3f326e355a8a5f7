/- MasksTwice. -/
import Derived.Test.YtjckkohmgalabaaZo
import Derived.Test.YtjckkohmgalabaaZq
import Derived.Deep.CutRange
namespace Go.Proofs.Ytjckkohmgalabaa
open Go.RowKit
theorem URow.keep {w w' : World} {g n c : Nat} {xs : List Nat} (h : URow w (.slice (some ⟨g, 0, none⟩) n c) xs) (e : w'.heap[g]? = w.heap[g]?) : URow w' (.slice (some ⟨g, 0, none⟩) n c) xs := URow.of_block h e
section
variable {w0 W : World} {X : Nat → Prop} {pa pb n : Nat} {ca cb : List Nat} {ra rb : List Rg} {ta tb : List (Nat × Nat)}
/-- The cells as a new row, which stands beside the arena from now on. -/
theorem pa_cells2 (h : Pr w0 W X pa pb ca ra ta cb rb tb) (hn : n = ca.length) : Calls Try.prog 30 #[.pointer (some ⟨pa, 0, none⟩)] W fun e w' => ∃ g c, e = .returned (.slice (some ⟨g, 0, none⟩) n c) ∧ URow w' (.slice (some ⟨g, 0, none⟩) n c) ca ∧ n ≤ c ∧ Pr w0 w' (fun k => X k ∨ k = g) pa pb ca ra ta cb rb tb ∧ ∀ k, X k → w'.heap[k]? = W.heap[k]? := by
  subst hn
  obtain ⟨F, c, pv, rv, pg, hx⟩ := h.arx
  refine (cells_any hx).mono ?_
  rintro e w' ⟨g, c, rfl, hg, ho, hb⟩
  exact ⟨g, c, rfl, ho.row, ho.le, h.beside hb fun k hk => by
    rcases hk with h1 | h1
    · exact ⟨Nat.lt_of_lt_of_le (h.xlt k h1) hb.size, .inl h1⟩
    · subst h1; exact ⟨ho.lt, .inr hg⟩, fun k hk => hb.block k (h.xlt k hk)⟩
end
theorem rof_row (c : Nat) (hc : c < 2 ^ 64) (w : World) : Calls Try.prog 10 #[.int .u64 (c : Int)] w fun e w' => e = .returned (.int .u64 (ofM c : Int)) ∧ w = w' := rof_any c w hc
theorem cq_at {W0 W : World} {B m : Nat} {x y k : Int} (h : W0.cell? ⟨B, 0, none⟩ = some (.int .u64 (m : Int)) ∧ W0.cell? ⟨B, 1, none⟩ = some (.int .i64 x) ∧ W0.cell? ⟨B, 2, none⟩ = some (.int .i64 y) ∧ W0.cell? ⟨B, 3, none⟩ = some (.int .i64 k)) (hb : Below W0.heap.size W0 W) :
    W.cell? ⟨B, 0, none⟩ = some (.int .u64 (m : Int)) ∧ W.cell? ⟨B, 1, none⟩ = some (.int .i64 x) ∧ W.cell? ⟨B, 2, none⟩ = some (.int .i64 y) ∧ W.cell? ⟨B, 3, none⟩ = some (.int .i64 k) :=
  ⟨(hb.cell (World.block_lt_of_cell? _ _ h.1)).trans h.1, (hb.cell (World.block_lt_of_cell? _ _ h.2.1)).trans h.2.1, (hb.cell (World.block_lt_of_cell? _ _ h.2.2.1)).trans h.2.2.1, (hb.cell (World.block_lt_of_cell? _ _ h.2.2.2)).trans h.2.2.2⟩
theorem row_at {W : World} {g n c : Nat} {xs : List Nat} (h : URow W (.slice (some ⟨g, 0, none⟩) n c) xs) (i : Nat) (hi : i < xs.length) : W.cell? ⟨g, i, none⟩ = some (.int .u64 ((xs.getD i 0 : Nat) : Int)) := by
  obtain ⟨q, c2, hq, _, hx⟩ := h
  cases hq
  obtain ⟨b, o, e, h2⟩ := hx i _ (List.getElem?_eq_getElem hi)
  cases e
  rw [Nat.zero_add] at h2
  rw [h2, List.getD_eq_getElem?_getD, List.getElem?_eq_getElem hi]; rfl
theorem row_zero {n t m st a b j : Nat} (hm : isM m) (h1 : 1 ≤ j) (h2 : j ≤ 64) (ha : a + j ≤ n) (hb : b + j ≤ n) (hd : a + j ≤ b ∨ b + j ≤ a) (ht : t + st * j ≤ 8388608) : rowE n t m (st : Int) (a : Int) (b : Int) (j : Int) = 0 := by
  have e1 : hasE n (a : Int) (j : Int) = 0 := by unfold hasE; rw [if_neg (by omega)]
  have e2 : hasE n (b : Int) (j : Int) = 0 := by unfold hasE; rw [if_neg (by omega)]
  unfold rowE ckR
  rw [if_pos hm, if_neg (by omega), if_pos (by unfold hasF; rw [if_pos e1]; unfold hasF; rw [if_pos e2]; rfl), if_neg (by omega)]
  unfold roomE
  rw [show (st : Int) * (j : Int) = ((st * j : Nat) : Int) by simp, if_neg (by omega), if_neg (by omega)]
def TwP (w : World) (e : Ending) (w' : World) : Prop := e = .returned (.bool true) ∧ Below w.heap.size w w'
set_option maxRecDepth 100000 in
set_option maxHeartbeats 8000000 in
theorem twice_any (v : Value) (xs : List Nat) (c : Cq) (w : World) (hv : URow w v xs) (hw : Wf xs) (hc : c.ok) : Calls Try.prog 6 #[v, cqA c] w (TwP w) := by
  have AW := Lib.hid awake_any
  obtain ⟨m0, x, y, k⟩ := c
  obtain ⟨hm, hx, hy, hk⟩ := hc
  unfold cqA
  dsimp only at hm hx hy hk ⊢
  obtain ⟨O, hO⟩ : ∃ O, O = cqO m0 x y k := ⟨_, rfl⟩
  have B0 := Lib.hid (hO ▸ below_alloc w O : Below w.heap.size w (w.alloc (cqO m0 x y k)))
  have Y0 := Lib.hid (cq_cells (heap_alloc_new w (cqO m0 x y k)))
  clear hO
  have H0 := Lib.hid (hv.below (below_alloc w (cqO m0 x y k)))
  obtain ⟨q, cp, rfl, _⟩ := hv
  by_cases hf : 200 < xs.length
  · have t1 : decide ((200 : Int) < (xs.length : Int)) = true := decide_eq_true (by omega)
    clear hw hm hx hy hk hf
    go_enter Try.func6, Try.ntmps6
    go_wp2_with (first
      | (go_at_call 19; (with_reducible refine (AW.out _).mono ?_); rintro e w13 ⟨rfl, hb13⟩))
    go_ret
    exact ⟨rfl, B0.out.trans (hb13.mono B0.out.size)⟩
  have t1 : decide ((200 : Int) < (xs.length : Int)) = false := decide_eq_false (by omega)
  have AR := Lib.hid (arena_any _ xs _ H0.out hw (by omega))
  unfold ArenaP at AR
  have hC : (arC xs).length = max xs.length 1 := by unfold arC; exact padC_len (Nat.le_refl _) (by unfold arN; omega)
  have hT : (arT xs).length = xs.length := by unfold arT; exact padT_len _
  obtain ⟨C, hCC⟩ : ∃ C, C = arC xs := ⟨_, rfl⟩
  obtain ⟨T, hTT⟩ : ∃ T, T = arT xs := ⟨_, rfl⟩
  rw [← hCC] at hC
  rw [← hTT] at hT
  simp only [← hCC, ← hTT] at AR
  clear hCC hTT
  obtain ⟨l, hl⟩ : ∃ l, l = xs.length := ⟨_, rfl⟩
  obtain ⟨n, hn⟩ : ∃ n, n = C.length := ⟨_, rfl⟩
  rw [← hl] at t1 AR hC hT ⊢
  obtain ⟨m, hmm⟩ : ∃ m, m = ofM m0 := ⟨_, rfl⟩
  have OF := Lib.hid (rof_row m0 hm)
  rw [← hmm] at OF
  have hM : isM m := hmm ▸ ofM_mask m0
  have hl2 : l ≤ 200 := by omega
  have NN := Lib.hid hn
  have NL := Lib.hid (show n = max l 1 by rw [hn, hC])
  have NT := Lib.hid hT
  have HM := Lib.hid hM
  have HL2 := Lib.hid hl2
  have R3 := Lib.hid (And.intro hx (And.intro hy hk))
  obtain ⟨E, hE⟩ : ∃ E, E = rowE C.length T.length m 4 x y k := ⟨_, rfl⟩
  obtain ⟨C1, hC1⟩ : ∃ c, c = if E = 0 then swRC m x.toNat y.toNat C k.toNat else C := ⟨_, rfl⟩
  obtain ⟨T1, hT1⟩ : ∃ t, t = if E = 0 then T ++ swRT x.toNat y.toNat k.toNat else T := ⟨_, rfl⟩
  have SW := Lib.hid (fun (w0 W : World) (X : Nat → Prop) (pa pb : Nat) (h : Pr w0 W X pa pb C [] T C [] T) => pa_act h fun F ar => SwapRows_any ar m x y k (isM_lt hM) hx hy hk)
  simp only [← hE, ← hC1, ← hT1] at SW
  have HC1 := Lib.hid hC1
  have HT1 := Lib.hid hT1
  have HE := Lib.hid hE
  have L1 := Lib.hid (show n = C1.length by rw [hC1, hn]; split; exact (swRC_len ..).symm; rfl)
  clear hw hm hx hy hk hf hC hT hl hn hmm hM hl2 hE hC1 hT1 H0
  have y0 := Y0.out.1
  have y1 := Y0.out.2.1
  have y2 := Y0.out.2.2.1
  have y3 := Y0.out.2.2.2
  by_cases h0 : E = 0
  case neg =>
    have HCC : Hid (C1 = C) := Lib.hid (by rw [HC1.out, if_neg h0])
    have HTT : Hid (T1.length = l) := Lib.hid (by rw [HT1.out, if_neg h0, NT.out])
    have t2 : (E != 0) = true := by rw [bne_iff_ne]; exact h0
    clear h0
    go_enter Try.func6, Try.ntmps6
    go_wp2_with (first
      | (go_at_call 20; (with_reducible refine (AR.out).mono ?_); rintro e w1 ⟨pa, pb, rfl, hp⟩; have P1 := Lib.hid hp; obtain ⟨z0, z1, z2, z3⟩ := cq_at Y0.out P1.out.bel; clear hp)
      | (go_at_call 30; (with_reducible refine (pa_cells2 P1.out NN.out).mono ?_); rintro e w2 ⟨g2, c2, rfl, hr, hc2, hp, _⟩; have P2 := Lib.hid hp; have R2 := Lib.hid hr; obtain ⟨z0, z1, z2, z3⟩ := cq_at Y0.out P2.out.bel; clear hp hr)
      | (go_at_call 10; (with_reducible refine (OF.out _).mono ?_); rintro e w' ⟨rfl, rfl⟩)
      | (go_at_call 26; (with_reducible refine (SW.out _ _ _ _ _ P2.out).mono ?_); rintro e w3 ⟨rfl, hp, hX⟩; have P3 := Lib.hid hp; have R3 := Lib.hid (R2.out.keep (hX g2 (.inr rfl))); obtain ⟨z0, z1, z2, z3⟩ := cq_at Y0.out P3.out.bel; clear hp hX)
      | (go_at_call 30; (with_reducible refine (pa_cells2 P3.out L1.out).mono ?_); rintro e w4 ⟨g4, c4, rfl, hr, hc4, hp, hX⟩; have P4 := Lib.hid hp; have R4 := Lib.hid (HCC.out ▸ hr); have S4 := Lib.hid (R3.out.keep (hX g2 (.inr rfl))); clear hp hr hX)
      | (go_at_call 31; (with_reducible refine (law_css S4.out R4.out (by rw [← NN.out, NL.out]; have := HL2.out; omega)).mono ?_); rintro e w5 ⟨rfl, hb⟩; have P5 := Lib.hid (P4.out.below hb); clear hb)
      | (go_at_call 32; (with_reducible refine (HTT.out ▸ pa_steps P5.out).mono ?_); rintro e w' ⟨rfl, rfl⟩)
      | (go_at_call 19; (with_reducible refine (AW.out _).mono ?_); rintro e w13 ⟨rfl, hb13⟩))
    go_ret
    exact ⟨rfl, B0.out.trans ((P5.out.bel.trans (hb13.mono P5.out.bel.size)).mono B0.out.size)⟩
  case pos =>
    subst h0
    obtain ⟨_, ⟨j, hj, hj1, hj2, a, ha0, ha, b, hb0, hb, hd⟩, hl⟩ := row_ok HE.out.symm
    subst hj; subst ha0; subst hb0
    have HC2 : Hid (C1 = swRC m a b C j) := Lib.hid (by rw [HC1.out, if_pos rfl, Int.toNat_natCast, Int.toNat_natCast, Int.toNat_natCast])
    have HT2 : Hid (T1.length = l + 4 * j) := Lib.hid (by rw [HT1.out, if_pos rfl, List.length_append, swRT_len, NT.out, Int.toNat_natCast])
    have GD := Lib.hid (And.intro hd (And.intro ha (And.intro hb (And.intro hj1 hj2))))
    have NB : Hid (n ≤ 200) := Lib.hid (by rw [NL.out]; have := HL2.out; omega)
    clear hd ha hb hj1 hj2 hl HC1 HT1
    go_enter Try.func6, Try.ntmps6
    go_wp2_with (first
      | (go_at_call 20; (with_reducible refine (AR.out).mono ?_); rintro e w1 ⟨pa, pb, rfl, hp⟩; have P1 := Lib.hid hp; obtain ⟨z0, z1, z2, z3⟩ := cq_at Y0.out P1.out.bel; clear hp)
      | (go_at_call 30; (with_reducible refine (pa_cells2 P1.out NN.out).mono ?_); rintro e w2 ⟨g2, c2, rfl, hr, hc2, hp, _⟩; have P2 := Lib.hid hp; have R2 := Lib.hid hr; obtain ⟨z0, z1, z2, z3⟩ := cq_at Y0.out P2.out.bel; clear hp hr)
      | (go_at_call 10; (with_reducible refine (OF.out _).mono ?_); rintro e w' ⟨rfl, rfl⟩)
      | (go_at_call 26; (with_reducible refine (SW.out _ _ _ _ _ P2.out).mono ?_); rintro e w3 ⟨rfl, hp, hX⟩; have P3 := Lib.hid hp; have R3 := Lib.hid (R2.out.keep (hX g2 (.inr rfl))); obtain ⟨z0, z1, z2, z3⟩ := cq_at Y0.out P3.out.bel; clear hp hX)
      | (go_at_call 30; (with_reducible refine (pa_cells2 P3.out L1.out).mono ?_); rintro e w4 ⟨g4, c4, rfl, hr, hc4, hp, hX⟩; have P4 := Lib.hid hp; have R4 := Lib.hid hr; have S4 := Lib.hid (R3.out.keep (hX g2 (.inr rfl))); clear hp hr hX))
    have HM0 : Hid (∀ v ∈ C, v < 2 ^ 64) := Lib.hid P1.out.wcs
    clear P1 P2 P3 R2 R3 AR SW OF y0 y1 y2 y3
    try clear z0 z1 z2 z3
    have Z0 := Lib.hid (cq_at Y0.out P4.out.bel)
    go_loopw [11] (fun i wr => ∃ k : Nat, k ≤ n ∧ i = .int .i64 (k : Int) ∧ ∃ d, wr = w4.drewN d) (fun i _ => n - (intOf i).toNat)
    case atStart => exact ⟨0, Nat.zero_le _, rfl, 0, rfl⟩
    case round =>
      obtain ⟨i, hi, rfl, d, rfl⟩ := hrel
      have y0 := Z0.out.1
      have y1 := Z0.out.2.1
      have y2 := Z0.out.2.2.1
      have y3 := Z0.out.2.2.2
      have hn200 := NB.out
      by_cases hlt : i < n
      · have t1 : decide ((i : Int) < (n : Int)) = true := decide_eq_true (by omega)
        have t1' : (i : Int) < (n : Int) := by omega
        obtain ⟨hd, ha, hb, hj1, hj2⟩ := GD.out
        obtain ⟨f1, f2⟩ := swF_at (m := m) (a := a) (b := b) (j := j) HM.out hd ha hb HM0.out i (by rw [← NN.out]; exact hlt)
        rw [← HC2.out] at f1
        rw [← NN.out] at ha hb f2
        obtain ⟨f, hf⟩ : ∃ f, f = swF m a b j i := ⟨_, rfl⟩
        rw [← hf] at f1 f2
        have F1 := Lib.hid f1
        have HF := Lib.hid hf
        clear f1 hf
        have x1 := row_at S4.out f (by rw [← NN.out]; exact f2)
        have x2 := row_at R4.out i (by rw [← L1.out]; exact hlt)
        rw [F1.out] at x2
        have u1 : decide ((f : Int) < 0) = false := decide_eq_false (by omega)
        have u2 : decide ((f : Int) ≥ (n : Int)) = false := decide_eq_false (by omega)
        have u2' : decide ((n : Int) ≤ (f : Int)) = false := decide_eq_false (by omega)
        have u2n : decide (n ≤ f) = false := decide_eq_false (by omega)
        have u3 : decide ((i : Int) ≥ (n : Int)) = false := decide_eq_false (by omega)
        have u3' : decide ((n : Int) ≤ (i : Int)) = false := decide_eq_false (by omega)
        have u3n : decide (n ≤ i) = false := decide_eq_false (by omega)
        have u4' : (f : Int) < (n : Int) := by omega
        obtain ⟨vv, hvv⟩ : ∃ z, z = C.getD f 0 := ⟨_, rfl⟩
        rw [← hvv] at x1 x2
        clear hvv F1 Z0 NB P4 R4 S4 HM0 HC2 HT2 AW
        rcases HM.out with hm0 | hm1
        · have e0 : ((m : Int) != 0) = false := by rw [hm0]; rfl
          have HFI : Hid (f = i) := Lib.hid (by rw [HF.out, hm0]; rfl)
          clear hm0 HF
          obtain rfl := HFI.out.symm
          go_wp2
          go_quiet (fail)
          go_wp2
          go_roundw
          case rel => exact ⟨i + 1, by omega, by go_num, _, rfl⟩
          case measure => simp [intOf]; omega
        · have e0 : ((m : Int) != 0) = true := by rw [hm1]; rfl
          have e1 : IntKind.i64.wrap ((a : Int) + (j : Int)) = ((a + j : Nat) : Int) := by rw [IntKind.wrap_i64]; omega
          have e2 : IntKind.i64.wrap ((b : Int) + (j : Int)) = ((b + j : Nat) : Int) := by rw [IntKind.wrap_i64]; omega
          have HFI : Hid (f = if a ≤ i ∧ i < a + j then i - a + b else if b ≤ i ∧ i < b + j then i - b + a else i) := Lib.hid (by rw [HF.out, hm1]; rfl)
          obtain ⟨aj, haj⟩ : ∃ z, z = a + j := ⟨_, rfl⟩
          obtain ⟨bj, hbj⟩ : ∃ z, z = b + j := ⟨_, rfl⟩
          rw [← haj] at e1 HFI
          rw [← hbj] at e2 HFI
          by_cases c1 : a ≤ i ∧ i < aj
          · have t1 : decide ((i : Int) ≥ (a : Int)) = true := decide_eq_true (by omega)
            have t1' : decide ((a : Int) ≤ (i : Int)) = true := decide_eq_true (by omega)
            have n1 : decide (a ≤ i) = true := decide_eq_true (by omega)
            have t2 : decide ((i : Int) < (aj : Int)) = true := decide_eq_true (by omega)
            have n2 : decide (i < aj) = true := decide_eq_true (by omega)
            have q1 : IntKind.i64.wrap ((i : Int) - (a : Int)) = ((i - a : Nat) : Int) := by rw [IntKind.wrap_i64]; omega
            have q2 : IntKind.i64.wrap (((i - a : Nat) : Int) + (b : Int)) = (f : Int) := by rw [HFI.out, if_pos c1, IntKind.wrap_i64]; omega
            obtain ⟨ia, hia⟩ : ∃ z, z = i - a := ⟨_, rfl⟩
            rw [← hia] at q1 q2
            by_cases c3 : b ≤ i
            · have t3 : decide ((i : Int) ≥ (b : Int)) = true := decide_eq_true (by omega)
              have t3' : decide ((b : Int) ≤ (i : Int)) = true := decide_eq_true (by omega)
              have n3 : decide (b ≤ i) = true := decide_eq_true (by omega)
              have t4 : decide ((i : Int) < (bj : Int)) = false := decide_eq_false (by omega)
              have n4 : decide (i < bj) = false := decide_eq_false (by omega)
              clear HFI haj hbj hia hm1 c1 c3 HF
              go_wp2
              go_quiet (fail)
              go_wp2
              go_roundw
              case rel => exact ⟨i + 1, by omega, by go_num, _, rfl⟩
              case measure => simp [intOf]; omega
            · have t3 : decide ((i : Int) ≥ (b : Int)) = false := decide_eq_false (by omega)
              have t3' : decide ((b : Int) ≤ (i : Int)) = false := decide_eq_false (by omega)
              have n3 : decide (b ≤ i) = false := decide_eq_false (by omega)
              clear HFI haj hbj hia hm1 c1 c3 HF
              go_wp2
              go_quiet (fail)
              go_wp2
              go_roundw
              case rel => exact ⟨i + 1, by omega, by go_num, _, rfl⟩
              case measure => simp [intOf]; omega
          · by_cases c2 : b ≤ i ∧ i < bj
            · have t3 : decide ((i : Int) ≥ (b : Int)) = true := decide_eq_true (by omega)
              have t3' : decide ((b : Int) ≤ (i : Int)) = true := decide_eq_true (by omega)
              have n3 : decide (b ≤ i) = true := decide_eq_true (by omega)
              have t4 : decide ((i : Int) < (bj : Int)) = true := decide_eq_true (by omega)
              have n4 : decide (i < bj) = true := decide_eq_true (by omega)
              have q1 : IntKind.i64.wrap ((i : Int) - (b : Int)) = ((i - b : Nat) : Int) := by rw [IntKind.wrap_i64]; omega
              have q2 : IntKind.i64.wrap (((i - b : Nat) : Int) + (a : Int)) = (f : Int) := by rw [HFI.out, if_neg c1, if_pos c2, IntKind.wrap_i64]; omega
              obtain ⟨ib, hib⟩ : ∃ z, z = i - b := ⟨_, rfl⟩
              rw [← hib] at q1 q2
              by_cases c3 : a ≤ i
              · have t1 : decide ((i : Int) ≥ (a : Int)) = true := decide_eq_true (by omega)
                have t1' : decide ((a : Int) ≤ (i : Int)) = true := decide_eq_true (by omega)
                have n1 : decide (a ≤ i) = true := decide_eq_true (by omega)
                have t2 : decide ((i : Int) < (aj : Int)) = false := decide_eq_false (by omega)
                have n2 : decide (i < aj) = false := decide_eq_false (by omega)
                clear HFI haj hbj hib hm1 c1 c2 c3 HF
                go_wp2
                go_quiet (fail)
                go_wp2
                go_roundw
                case rel => exact ⟨i + 1, by omega, by go_num, _, rfl⟩
                case measure => simp [intOf]; omega
              · have t1 : decide ((i : Int) ≥ (a : Int)) = false := decide_eq_false (by omega)
                have t1' : decide ((a : Int) ≤ (i : Int)) = false := decide_eq_false (by omega)
                have n1 : decide (a ≤ i) = false := decide_eq_false (by omega)
                clear HFI haj hbj hib hm1 c1 c2 c3 HF
                go_wp2
                go_quiet (fail)
                go_wp2
                go_roundw
                case rel => exact ⟨i + 1, by omega, by go_num, _, rfl⟩
                case measure => simp [intOf]; omega
            · have HF2 : Hid (f = i) := Lib.hid (by rw [HFI.out, if_neg c1, if_neg c2])
              have D1 : Hid (¬ (a ≤ i ∧ i < aj)) := Lib.hid c1
              have D2 : Hid (¬ (b ≤ i ∧ i < bj)) := Lib.hid c2
              clear HFI haj hbj hm1 c1 c2 HF
              by_cases c3 : a ≤ i
              · have t1 : decide ((i : Int) ≥ (a : Int)) = true := decide_eq_true (by omega)
                have t1' : decide ((a : Int) ≤ (i : Int)) = true := decide_eq_true (by omega)
                have n1 : decide (a ≤ i) = true := decide_eq_true (by omega)
                have t2 : decide ((i : Int) < (aj : Int)) = false := decide_eq_false (by have := D1.out; omega)
                have n2 : decide (i < aj) = false := decide_eq_false (by have := D1.out; omega)
                by_cases c4 : b ≤ i
                · have t3 : decide ((i : Int) ≥ (b : Int)) = true := decide_eq_true (by omega)
                  have t3' : decide ((b : Int) ≤ (i : Int)) = true := decide_eq_true (by omega)
                  have n3 : decide (b ≤ i) = true := decide_eq_true (by omega)
                  have t4 : decide ((i : Int) < (bj : Int)) = false := decide_eq_false (by have := D2.out; omega)
                  have n4 : decide (i < bj) = false := decide_eq_false (by have := D2.out; omega)
                  clear c3 c4
                  obtain rfl := HF2.out.symm
                  go_wp2
                  go_quiet (fail)
                  go_wp2
                  go_roundw
                  case rel => exact ⟨i + 1, by omega, by go_num, _, rfl⟩
                  case measure => simp [intOf]; omega
                · have t3 : decide ((i : Int) ≥ (b : Int)) = false := decide_eq_false (by omega)
                  have t3' : decide ((b : Int) ≤ (i : Int)) = false := decide_eq_false (by omega)
                  have n3 : decide (b ≤ i) = false := decide_eq_false (by omega)
                  clear c3 c4
                  obtain rfl := HF2.out.symm
                  go_wp2
                  go_quiet (fail)
                  go_wp2
                  go_roundw
                  case rel => exact ⟨i + 1, by omega, by go_num, _, rfl⟩
                  case measure => simp [intOf]; omega
              · have t1 : decide ((i : Int) ≥ (a : Int)) = false := decide_eq_false (by omega)
                have t1' : decide ((a : Int) ≤ (i : Int)) = false := decide_eq_false (by omega)
                have n1 : decide (a ≤ i) = false := decide_eq_false (by omega)
                by_cases c4 : b ≤ i
                · have t3 : decide ((i : Int) ≥ (b : Int)) = true := decide_eq_true (by omega)
                  have t3' : decide ((b : Int) ≤ (i : Int)) = true := decide_eq_true (by omega)
                  have n3 : decide (b ≤ i) = true := decide_eq_true (by omega)
                  have t4 : decide ((i : Int) < (bj : Int)) = false := decide_eq_false (by have := D2.out; omega)
                  have n4 : decide (i < bj) = false := decide_eq_false (by have := D2.out; omega)
                  clear c3 c4
                  obtain rfl := HF2.out.symm
                  go_wp2
                  go_quiet (fail)
                  go_wp2
                  go_roundw
                  case rel => exact ⟨i + 1, by omega, by go_num, _, rfl⟩
                  case measure => simp [intOf]; omega
                · have t3 : decide ((i : Int) ≥ (b : Int)) = false := decide_eq_false (by omega)
                  have t3' : decide ((b : Int) ≤ (i : Int)) = false := decide_eq_false (by omega)
                  have n3 : decide (b ≤ i) = false := decide_eq_false (by omega)
                  clear c3 c4
                  obtain rfl := HF2.out.symm
                  go_wp2
                  go_quiet (fail)
                  go_wp2
                  go_roundw
                  case rel => exact ⟨i + 1, by omega, by go_num, _, rfl⟩
                  case measure => simp [intOf]; omega
      · obtain rfl : i = n := by omega
        have t1 : decide ((i : Int) < (i : Int)) = false := decide_eq_false (by omega)
        obtain ⟨hd, ha, hb, hj1, hj2⟩ := GD.out
        have P5 := Lib.hid (P4.out.below (below_drewN (Below.refl _ w4) d))
        have hrz : rowE C1.length T1.length m 4 (a : Int) (b : Int) (j : Int) = 0 := row_zero (st := 4) HM.out hj1 hj2 (by rw [← L1.out, NN.out]; exact ha) (by rw [← L1.out, NN.out]; exact hb) hd (by rw [HT2.out]; have := HL2.out; omega)
        have hsw := pa_act P5.out fun F ar => SwapRows_any ar m a b j (isM_lt HM.out) R3.out.1 R3.out.2.1 R3.out.2.2
        rw [hrz, if_pos rfl, if_pos rfl, Int.toNat_natCast, Int.toNat_natCast, Int.toNat_natCast, HC2.out, swRC_twice HM.out hd ha hb HM0.out] at hsw
        obtain ⟨T2, hT2⟩ : ∃ t, t = T1 ++ swRT a b j := ⟨_, rfl⟩
        rw [← hT2] at hsw
        have HT3 : Hid (T2.length = l + 8 * j) := Lib.hid (by rw [hT2, List.length_append, swRT_len, HT2.out]; omega)
        have SW2 := Lib.hid hsw
        have hl200 := HL2.out
        clear hsw hrz hT2 hd ha hb
        go_wp2_with (first
          | (go_at_call 26; (with_reducible refine (SW2.out).mono ?_); rintro e w5 ⟨rfl, hp, hX⟩; have P6 := Lib.hid (pr_drew hp); have S5 := Lib.hid ((S4.out.drewN d).keep (hX g2 (.inl (.inr rfl)))); have v3 := (cq_at Y0.out P6.out.bel).2.2.2; clear hp hX))
        have e8 : IntKind.i64.wrap (8 * (j : Int)) = ((8 * j : Nat) : Int) := by rw [IntKind.wrap_i64]; omega
        have e9 : IntKind.i64.wrap ((l : Int) + ((8 * j : Nat) : Int)) = ((l + 8 * j : Nat) : Int) := by rw [IntKind.wrap_i64]; omega
        obtain ⟨q8, hq8⟩ : ∃ z, z = 8 * j := ⟨_, rfl⟩
        rw [← hq8] at e8 e9 HT3
        obtain ⟨q9, hq9⟩ : ∃ z, z = l + q8 := ⟨_, rfl⟩
        rw [← hq9] at e9 HT3
        have hNN := Lib.hid (show C.length ≤ 1000000 by rw [← NN.out]; have := NB.out; omega)
        clear hq8 hq9 hl200 hj1 hj2 Z0 y0 y1 y2 y3 z0 z1 z2 z3
        go_region_held3 (fun w' => w'.cell? ⟨w.heap.size, 3, none⟩ = some (.int .i64 (j : Int)))
          (first | exact v3 | exact v4 | exact v5 | exact v6)
          (first
            | (go_at_call 30; (with_reducible refine (pa_cells2 P6.out NN.out).mono ?_); rintro e w6 ⟨g6, c6, rfl, hr, hc6, hp, hX⟩; have P7 := Lib.hid hp; have R7 := Lib.hid hr; have S7 := Lib.hid (S5.out.keep (hX g2 (.inl (.inr rfl)))); have v4 := (cq_at Y0.out P7.out.bel).2.2.2; clear hp hr hX)
            | (go_at_call 31; (with_reducible refine (law_css R7.out S7.out hNN.out).mono ?_); rintro e w7 ⟨rfl, hb⟩; have P8 := Lib.hid (P7.out.below hb); have v5 := (cq_at Y0.out P8.out.bel).2.2.2; clear hb)
            | (go_at_call 32; (with_reducible refine (HT3.out ▸ pa_steps P8.out).mono ?_); rintro e w' ⟨rfl, rfl⟩)
            | (go_at_call 19; (with_reducible refine (AW.out _).mono ?_); rintro e w13 ⟨rfl, hb13⟩; have P9 := Lib.hid (P8.out.below hb13); have v6 := (cq_at Y0.out P9.out.bel).2.2.2; clear hb13))
        all_goals
          go_wp2
          go_ret
          exact ⟨rfl, B0.out.trans (P9.out.bel.mono B0.out.size)⟩
end Go.Proofs.Ytjckkohmgalabaa
