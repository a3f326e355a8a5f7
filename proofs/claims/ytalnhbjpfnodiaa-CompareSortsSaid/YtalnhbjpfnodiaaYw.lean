/- CompareBlind. -/
import Derived.Test.YtalnhbjpfnodiaaYt
import Derived.Test.YtalnhbjpfnodiaaZv
import Derived.Deep.CutRange
namespace Go.Proofs.Ytalnhbjpfnodiaa
open Go.RowKit
section
variable {w0 W W' : World} {X X' : Nat → Prop} {N pa pb f : Nat} {ta tb t' : List (Nat × Nat)} {args : Array Value} {E : Int}
def TwM (w0 W : World) (X : Nat → Prop) (N pa pb : Nat) (ta tb : List (Nat × Nat)) (E : Int) (e : Ending) (W' : World) : Prop :=
  ∃ m : Nat, e = .returned (.tuple #[.int .u64 (m : Int), .int .i64 E]) ∧ Tw w0 W' X N pa pb ta tb ∧ ∀ k, X k → W'.heap[k]? = W.heap[k]?
theorem tw_mask (h : Tw w0 W X N pa pb ta tb) (hc : ∀ F ca, ca.length = N → Ar W F pa ca [] ta → ∃ m, Calls Try.prog f args W (MrP W F pa ca [] ta m E t')) : Calls Try.prog f args W (TwM w0 W X N pa pb (if E = 0 then ta ++ t' else ta) tb E) := by
  obtain ⟨⟨Fa, Fb, ca, cb, l1, l2, h1, h2, a1, a2⟩, hbel, hx⟩ := h
  have lb := a2.lt
  obtain ⟨m, hcall⟩ := hc Fa ca l1 a1
  refine hcall.mono ?_
  rintro e w' ⟨rfl, F', e', ar', hk⟩
  refine ⟨_, rfl, ⟨⟨F', Fb, ca, cb, l1, l2, fun k h3 => ?_, fun k h3 => ⟨(h2 k h3).1, (h2 k h3).2.1, fun h4 => ?_⟩, ar', a2.kept hk fun i hi hf => (h2 i hi).2.2 hf⟩, hbel.trans (hk.below hbel.size fun k h3 => (h1 k h3).1), fun k h3 => Nat.lt_of_lt_of_le (hx k h3) hk.size⟩, fun k h3 => hk.block k (hx k h3) fun h4 => (h1 k h4).2.1 h3⟩
  · rcases e' k h3 with h4 | h4
    · exact h1 k h4
    · exact ⟨Nat.le_trans hbel.size h4, fun h5 => by have := hx k h5; omega, fun h5 => by have := lb k h5; omega⟩
  · rcases e' k h4 with h5 | h5
    · exact (h1 k h5).2.2 h3
    · have := lb k h3; omega
end
/-- The four calls, whatever the cells. -/
structure Four (N : Nat) (x y k : Int) (E1 E2 E3 E4 : Int) (T0 T1 T2 T3 T4 : List (Nat × Nat)) : Prop where
  c1 : ∀ w0 W X p q tb, Tw w0 W X N p q T0 tb → Calls Try.prog 26 #[.pointer (some ⟨p, 0, none⟩), .int .i64 x, .int .i64 y, .int .i64 k] W (TwM w0 W X N p q T1 tb E1)
  c2 : ∀ w0 W X p q tb, Tw w0 W X N p q T1 tb → Calls Try.prog 25 #[.pointer (some ⟨p, 0, none⟩), .int .i64 x, .int .i64 y, .int .i64 k] W (TwM w0 W X N p q T2 tb E2)
  c3 : ∀ w0 W X p q tb, Tw w0 W X N p q T2 tb → Calls Try.prog 28 #[.pointer (some ⟨p, 0, none⟩), .int .i64 x, .int .i64 y, .int .i64 k] W (TwP2 w0 W X N p q T3 tb E3)
  c4 : ∀ w0 W X p q tb, Tw w0 W X N p q T3 tb → Calls Try.prog 29 #[.pointer (some ⟨p, 0, none⟩), .int .i64 x, .int .i64 y, .int .i64 k] W (TwP2 w0 W X N p q T4 tb E4)
theorem four_all (N : Nat) (x y k : Int) (hx : i64R x) (hy : i64R y) (T0 : List (Nat × Nat)) : ∃ E1 E2 E3 E4 T1 T2 T3 T4, Four N x y k E1 E2 E3 E4 T0 T1 T2 T3 T4 := by
  obtain ⟨E1, h1⟩ : ∃ E, E = cmE N T0.length x y k := ⟨_, rfl⟩
  obtain ⟨T1, t1⟩ : ∃ T, T = if E1 = 0 then T0 ++ cmT x.toNat y.toNat k.toNat else T0 := ⟨_, rfl⟩
  obtain ⟨E2, h2⟩ : ∃ E, E = cmE N T1.length x y k := ⟨_, rfl⟩
  obtain ⟨T2, t2⟩ : ∃ T, T = if E2 = 0 then T1 ++ cmT x.toNat y.toNat k.toNat else T1 := ⟨_, rfl⟩
  obtain ⟨E3, h3⟩ : ∃ E, E = exE N T2.length x y k := ⟨_, rfl⟩
  obtain ⟨T3, t3⟩ : ∃ T, T = if E3 = 0 then T2 ++ exT x.toNat y.toNat k.toNat else T2 := ⟨_, rfl⟩
  obtain ⟨E4, h4⟩ : ∃ E, E = soE N T3.length x y k := ⟨_, rfl⟩
  obtain ⟨T4, t4⟩ : ∃ T, T = if E4 = 0 then T3 ++ soT x.toNat k.toNat (netK (y.toNat - 1)) else T3 := ⟨_, rfl⟩
  refine ⟨E1, E2, E3, E4, T1, T2, T3, T4, ⟨?_, ?_, ?_, ?_⟩⟩
  · intro w0 W X p q tb h
    have := tw_mask h (f := 26) (args := #[.pointer (some ⟨p, 0, none⟩), .int .i64 x, .int .i64 y, .int .i64 k]) (E := E1) (t' := cmT x.toNat y.toNat k.toNat) fun F ca hl ar => ⟨eqO (cmO ca x y k), by
      have := EqualRows_any ar x y k hx hy
      rw [hl, ← h1] at this
      exact this⟩
    rw [← t1] at this
    exact this
  · intro w0 W X p q tb h
    have := tw_mask h (f := 25) (args := #[.pointer (some ⟨p, 0, none⟩), .int .i64 x, .int .i64 y, .int .i64 k]) (E := E2) (t' := cmT x.toNat y.toNat k.toNat) fun F ca hl ar => ⟨ltO (cmO ca x y k), by
      have := LessRows_any ar x y k hx hy
      rw [hl, ← h2] at this
      exact this⟩
    rw [← t2] at this
    exact this
  · intro w0 W X p q tb h
    have := tw_act h (f := 28) (args := #[.pointer (some ⟨p, 0, none⟩), .int .i64 x, .int .i64 y, .int .i64 k]) (E := E3) (t' := exT x.toNat y.toNat k.toNat) fun F ca hl ar => ⟨exC x.toNat y.toNat k.toNat ca, by rw [exC_len]; exact hl, by
      have := Exchange_any ar x y k hx hy
      rw [hl, ← h3] at this
      exact this⟩
    rw [← t3] at this
    exact this
  · intro w0 W X p q tb h
    have := tw_act h (f := 29) (args := #[.pointer (some ⟨p, 0, none⟩), .int .i64 x, .int .i64 y, .int .i64 k]) (E := E4) (t' := soT x.toNat k.toNat (netK (y.toNat - 1))) fun F ca hl ar => ⟨soC x.toNat k.toNat (netK (y.toNat - 1)) ca, by rw [soC_len]; exact hl, by
      have := Sort_any ar x y k hx
      rw [hl, ← h4] at this
      exact this⟩
    rw [← t4] at this
    exact this
theorem pad_len {xs ys : List Nat} {n : Nat} (hn : n = max xs.length ys.length) : (xs ++ List.replicate (n - xs.length) 0).length = n ∧ (ys ++ List.replicate (n - ys.length) 0).length = n := by simp; omega
theorem pad_w {xs : List Nat} (h : Wf xs) (k : Nat) : Wf (xs ++ List.replicate k 0) := by
  intro x hx
  rcases List.mem_append.1 hx with h1 | h1
  · exact h x h1
  · rw [(List.mem_replicate.1 h1).2]; decide
theorem cc_at {W0 W : World} {B : Nat} {x y k : Int} (h : W0.cell? ⟨B, 0, none⟩ = some (.int .i64 x) ∧ W0.cell? ⟨B, 1, none⟩ = some (.int .i64 y) ∧ W0.cell? ⟨B, 2, none⟩ = some (.int .i64 k)) (hb : Below W0.heap.size W0 W) :
    W.cell? ⟨B, 0, none⟩ = some (.int .i64 x) ∧ W.cell? ⟨B, 1, none⟩ = some (.int .i64 y) ∧ W.cell? ⟨B, 2, none⟩ = some (.int .i64 k) :=
  ⟨(hb.cell (World.block_lt_of_cell? _ _ h.1)).trans h.1, (hb.cell (World.block_lt_of_cell? _ _ h.2.1)).trans h.2.1, (hb.cell (World.block_lt_of_cell? _ _ h.2.2)).trans h.2.2⟩
set_option maxRecDepth 100000 in
set_option maxHeartbeats 40000000 in
theorem blind_any (va vb : Value) (xs ys : List Nat) (c : Cc) (w : World) (ha : URow w va xs) (hb : URow w vb ys) (hwa : Wf xs) (hwb : Wf ys) (hc : c.ok) : Calls Try.prog 7 #[va, vb, ccA c] w (TwP w) := by
  have AW := Lib.hid awake_any
  obtain ⟨x, y, k⟩ := c
  obtain ⟨hx, hy, hk⟩ := hc
  unfold ccA
  dsimp only at hx hy hk ⊢
  have B0 := Lib.hid (below_alloc w (ccO x y k))
  have Y0 := Lib.hid (cc_cells (heap_alloc_new w (ccO x y k)))
  have HA := Lib.hid (ha.below (below_alloc w (ccO x y k)))
  have HB := Lib.hid (hb.below (below_alloc w (ccO x y k)))
  obtain ⟨q1, cp1, rfl, _⟩ := ha
  obtain ⟨q2, cp2, rfl, _⟩ := hb
  by_cases hf : 200 < xs.length
  · have t1 : decide ((200 : Int) < (xs.length : Int)) = true := decide_eq_true (by omega)
    have t1n : decide (200 < xs.length) = true := decide_eq_true hf
    clear hwa hwb hx hy hk hf
    go_enter Try.func7, Try.ntmps7
    go_wp2_with (first
      | (go_at_call 21; (with_reducible refine (AW.out _).mono ?_); rintro e w13 ⟨rfl, hb13⟩))
    go_ret
    exact ⟨rfl, B0.out.trans (hb13.mono B0.out.size)⟩
  have t1 : decide ((200 : Int) < (xs.length : Int)) = false := decide_eq_false (by omega)
  by_cases hf2 : 200 < ys.length
  · have t2 : decide ((200 : Int) < (ys.length : Int)) = true := decide_eq_true (by omega)
    have t2n : decide (200 < ys.length) = true := decide_eq_true hf2
    clear hwa hwb hx hy hk hf hf2
    go_enter Try.func7, Try.ntmps7
    go_wp2_with (first
      | (go_at_call 21; (with_reducible refine (AW.out _).mono ?_); rintro e w13 ⟨rfl, hb13⟩))
    go_ret
    exact ⟨rfl, B0.out.trans (hb13.mono B0.out.size)⟩
  have t2 : decide ((200 : Int) < (ys.length : Int)) = false := decide_eq_false (by omega)
  obtain ⟨n, hn⟩ : ∃ n, n = max xs.length ys.length := ⟨_, rfl⟩
  obtain ⟨hlx, hly⟩ := pad_len hn
  obtain ⟨lx, hxl⟩ : ∃ l, l = xs.length := ⟨_, rfl⟩
  obtain ⟨ly, hyl⟩ : ∃ l, l = ys.length := ⟨_, rfl⟩
  rw [← hxl, ← hyl] at hn
  rw [← hxl] at t1 hlx HA ⊢
  rw [← hyl] at t2 hly HB ⊢
  have hnn : lx ≤ n ∧ ly ≤ n ∧ n ≤ 200 := by omega
  have e1 : (if (lx : Int) < (ly : Int) then (ly : Int) else (lx : Int)) = (n : Int) := by split <;> omega
  have e1n : (if lx < ly then (ly : Int) else (lx : Int)) = (n : Int) := by split <;> omega
  have e2 : IntKind.i64.wrap ((n : Int) - (lx : Int)) = ((n - lx : Nat) : Int) := by rw [IntKind.wrap_i64]; omega
  have e3 : IntKind.i64.wrap ((n : Int) - (ly : Int)) = ((n - ly : Nat) : Int) := by rw [IntKind.wrap_i64]; omega
  obtain ⟨kx, hkx⟩ : ∃ z, z = n - lx := ⟨_, rfl⟩
  obtain ⟨ky, hky⟩ : ∃ z, z = n - ly := ⟨_, rfl⟩
  rw [← hkx] at e2 hlx
  rw [← hky] at e3 hly
  obtain ⟨v1, w1, v2, w2, r1, r2, h2, b2⟩ := run_pad (w.alloc (ccO x y k)) q1 cp1 lx kx xs hxl HA.out (by omega)
  rw [show (w.alloc (ccO x y k)).heap.size = w.heap.size + 1 by simp] at r1
  have R1 := Lib.hid r1
  have R2 := Lib.hid r2
  have H2 := Lib.hid h2
  have C2 := Lib.hid b2
  have AX := Lib.hid (arena_any v2 (xs ++ List.replicate kx 0) w2 h2 (pad_w hwa kx) (by omega))
  unfold ArenaP at AX
  have AY := Lib.hid (fun v W (h : URow W v (ys ++ List.replicate ky 0)) => arena_any v (ys ++ List.replicate ky 0) W h (pad_w hwb ky) (by omega))
  unfold ArenaP at AY
  have RY := Lib.hid (fun W (h : URow W (.slice q2 ly cp2) ys) => run_pad W q2 cp2 ly ky ys hyl h (by omega))
  obtain ⟨N, hN⟩ : ∃ N, N = max n 1 := ⟨_, rfl⟩
  have hTx : arT (xs ++ List.replicate kx 0) = padT n := by unfold arT; rw [hlx]
  have hTy : arT (ys ++ List.replicate ky 0) = padT n := by unfold arT; rw [hly]
  have hCx : (arC (xs ++ List.replicate kx 0)).length = N := by unfold arC; rw [padC_len (Nat.le_refl _) (by unfold arN; omega)]; unfold arN; omega
  have hCy : (arC (ys ++ List.replicate ky 0)).length = N := by unfold arC; rw [padC_len (Nat.le_refl _) (by unfold arN; omega)]; unfold arN; omega
  obtain ⟨T0, hT0⟩ : ∃ T, T = padT n := ⟨_, rfl⟩
  rw [hTx, ← hT0] at AX
  rw [hTy, ← hT0] at AY
  obtain ⟨Cx, hcx⟩ : ∃ C, C = arC (xs ++ List.replicate kx 0) := ⟨_, rfl⟩
  obtain ⟨Cy, hcy⟩ : ∃ C, C = arC (ys ++ List.replicate ky 0) := ⟨_, rfl⟩
  rw [← hcx] at AX hCx
  rw [← hcy] at AY hCy
  obtain ⟨E1, E2, E3, E4, T1, T2, T3, T4, hfour⟩ := four_all N x y k hx hy T0
  have FA := Lib.hid hfour
  have LX := Lib.hid (And.intro hCx hCy)
  clear hfour hTx hTy hCx hCy hcx hcy hT0 hN r1 r2 h2 b2 hlx hly hn hkx hky hxl hyl hwa hwb hf hf2 hx hy hk HA
  have y0 := Y0.out.1
  have y1 := Y0.out.2.1
  have y2 := Y0.out.2.2
  go_enter Try.func7, Try.ntmps7
  go_upto_region 5 with (first
    | (at_builtin; refine Lib.wpList_append_run _ (by rfl) _ _ _ _ (by rfl) _ _ (by rfl) (by rfl) _ _ R1.out ?_)
    | (at_builtin; refine Lib.wpList_append_run _ (by rfl) _ _ _ _ (by rfl) _ _ (by rfl) (by rfl) _ _ R2.out ?_)
    | (go_at_call 22; (with_reducible refine (AX.out).mono ?_); rintro e w3 ⟨pa, pa', rfl, hp⟩; have P3 := Lib.hid hp; have C3 := Lib.hid (C2.out.trans (hp.bel.mono C2.out.size)); obtain ⟨v4, w4, v5, w5, r4, r5, h5, b5⟩ := RY.out w3 (HB.out.below C3.out); have R4 := Lib.hid r4; have R5 := Lib.hid r5; have C5 := Lib.hid b5; have AY2 := Lib.hid (AY.out _ _ h5); clear hp r4 r5 h5 b5)
    | (at_builtin; refine Lib.wpList_append_run _ (by rfl) _ _ _ _ (by rfl) _ _ (by rfl) (by rfl) _ _ R4.out ?_)
    | (at_builtin; refine Lib.wpList_append_run _ (by rfl) _ _ _ _ (by rfl) _ _ (by rfl) (by rfl) _ _ R5.out ?_)
    | (go_at_call 22; (with_reducible refine (AY2.out).mono ?_); rintro e w6 ⟨qa, qa', rfl, hp⟩; have T6 := Lib.hid (tw_of P3.out hp C5.out LX.out.1 LX.out.2 C2.out); clear hp))
  clear R1 R2 AX
  go_upto_region 6 with (first
    | (at_builtin; refine Lib.wpList_append_run _ (by rfl) _ _ _ _ (by rfl) _ _ (by rfl) (by rfl) _ _ R4.out ?_)
    | (at_builtin; refine Lib.wpList_append_run _ (by rfl) _ _ _ _ (by rfl) _ _ (by rfl) (by rfl) _ _ R5.out ?_)
    | (go_at_call 22; (with_reducible refine (AY2.out).mono ?_); rintro e w6 ⟨qa, qa', rfl, hp⟩; have T6 := Lib.hid (tw_of P3.out hp C5.out LX.out.1 LX.out.2 C2.out); clear hp))
  clear R4 R5 AY AY2 RY P3 C3 C5 LX
  obtain ⟨z0, z1, z2⟩ := cc_at Y0.out T6.out.bel
  clear y0 y1 y2 e1 e1n e2 e3 t1 t2
  go_upto_region 10 with (first
    | (go_at_call 26; (with_reducible refine (FA.out.c1 _ _ _ _ _ _ T6.out).mono ?_); rintro e w7 ⟨m7, rfl, hT, _⟩; have T7 := Lib.hid hT; obtain ⟨a0, a1, a2⟩ := cc_at Y0.out T7.out.bel; clear hT)
    | (go_at_call 26; (with_reducible refine (FA.out.c1 _ _ _ _ _ _ T7.out.swap).mono ?_); rintro e w8 ⟨m8, rfl, hT, _⟩; have T8 := Lib.hid hT.swap; obtain ⟨b0, b1, b2⟩ := cc_at Y0.out T8.out.bel; clear hT)
    | (go_at_call 25; (with_reducible refine (FA.out.c2 _ _ _ _ _ _ T8.out).mono ?_); rintro e w9 ⟨m9, rfl, hT, _⟩; have T9 := Lib.hid hT; obtain ⟨c0, c1, c2⟩ := cc_at Y0.out T9.out.bel; clear hT)
    | (go_at_call 25; (with_reducible refine (FA.out.c2 _ _ _ _ _ _ T9.out.swap).mono ?_); rintro e w10 ⟨m10, rfl, hT, _⟩; have T10 := Lib.hid hT.swap; obtain ⟨d0, d1, d2⟩ := cc_at Y0.out T10.out.bel; clear hT))
  clear z0 z1 z2 a0 a1 a2 b0 b1 b2 c0 c1 c2 T6 T7 T8 T9
  have T11 := Lib.hid (T10.out.below (Below.refl _ w10).drew)
  have T11s := Lib.hid T11.out.swap
  clear T10
  go_region_held3 (fun w' => w'.cell? ⟨w.heap.size, 0, none⟩ = some (.int .i64 x) ∧ w'.cell? ⟨w.heap.size, 1, none⟩ = some (.int .i64 y) ∧ w'.cell? ⟨w.heap.size, 2, none⟩ = some (.int .i64 k))
    (first | with_reducible exact cc_at Y0.out T11.out.bel | with_reducible exact cc_at Y0.out S15.out.bel | with_reducible exact cc_at Y0.out S14.out.bel | with_reducible exact cc_at Y0.out S13.out.bel | with_reducible exact cc_at Y0.out S12.out.bel)
    (first
      | (go_at_call 28; (with_reducible refine (FA.out.c3 _ _ _ _ _ _ T11.out).mono ?_); rintro e w12 ⟨rfl, h, _⟩; have S12 := Lib.hid h; have V12 := Lib.hid h.swap; clear h)
      | (go_at_call 28; (with_reducible refine (FA.out.c3 _ _ _ _ _ _ T11s.out).mono ?_); rintro e w12 ⟨rfl, h, _⟩; have S12 := Lib.hid h; have V12 := Lib.hid h.swap; clear h)
      | (go_at_call 28; (with_reducible refine (FA.out.c3 _ _ _ _ _ _ V12.out).mono ?_); rintro e w13 ⟨rfl, h, _⟩; have S13 := Lib.hid h; have V13 := Lib.hid h.swap; clear h)
      | (go_at_call 29; (with_reducible refine (FA.out.c4 _ _ _ _ _ _ S13.out).mono ?_); rintro e w14 ⟨rfl, h, _⟩; have S14 := Lib.hid h; have V14 := Lib.hid h.swap; clear h)
      | (go_at_call 29; (with_reducible refine (FA.out.c4 _ _ _ _ _ _ V13.out).mono ?_); rintro e w14 ⟨rfl, h, _⟩; have S14 := Lib.hid h; have V14 := Lib.hid h.swap; clear h)
      | (go_at_call 29; (with_reducible refine (FA.out.c4 _ _ _ _ _ _ V14.out).mono ?_); rintro e w15 ⟨rfl, h, _⟩; have S15 := Lib.hid h; have V15 := Lib.hid h.swap; clear h))
  all_goals
    have T16 : Hid (Tw (w.alloc (ccO x y k)) w15 no N pa qa T4 T4) := Lib.hid (by first | exact S15.out | exact V15.out)
    have EL := Lib.hid (tw_long T16.out)
    clear FA S12 V12 S13 V13 S14 V14 S15 V15 T11 T11s
    go_wp2_with (first
      | (go_at_call 31; (with_reducible refine (tw_events T16.out).mono ?_); rintro e w16 ⟨v16, rfl, he, hb⟩; have T17 := Lib.hid (T16.out.below hb); have E16 := Lib.hid he; clear he hb)
      | (go_at_call 31; (with_reducible refine (tw_events T17.out.swap).mono ?_); rintro e w17 ⟨v17, rfl, he, hb⟩; have T18 := Lib.hid (T17.out.below hb); have E17 := Lib.hid he; have F16 := Lib.hid (E16.out.below hb); clear he hb)
      | (go_at_call 30; (with_reducible refine (law_evs F16.out E17.out (by have := EL.out; omega)).mono ?_); rintro e w18 ⟨rfl, hb⟩; have T19 := Lib.hid (T18.out.below hb); clear hb)
      | (go_at_call 21; (with_reducible refine (AW.out _).mono ?_); rintro e w19 ⟨rfl, hb⟩; have T20 := Lib.hid (T19.out.below hb); clear hb))
    go_ret
    exact ⟨rfl, B0.out.trans (T20.out.bel.mono B0.out.size)⟩
theorem blind_row (va vb : Value) (xs ys : List Nat) (c : Cc) (w : World) (ha : URow w va xs) (hb : URow w vb ys) (hwa : Wf xs) (hwb : Wf ys) (hc : c.ok) : Calls Try.prog 7 #[va, vb, ccA c] w fun e w' => e = .returned (.bool true) ∧ Below w.heap.size w w' := blind_any va vb xs ys c w ha hb hwa hwb hc
end Go.Proofs.Ytalnhbjpfnodiaa
