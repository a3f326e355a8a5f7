/- MasksBlind: the law. -/
import Derived.Test.YtjckkohmgalabaaZx
import Derived.Deep.CutRange
namespace Go.Proofs.Ytjckkohmgalabaa
open Go.RowKit
attribute [local go_sem] eq5 guard5
abbrev cq2O (c d : Cq) : Obj := .cells #[.int .u64 (c.m : Int), .int .i64 c.x, .int .i64 c.y, .int .i64 c.k, .int .u64 (d.m : Int), .int .i64 d.x, .int .i64 d.y, .int .i64 d.k] 42
theorem pad_len {xs ys : List Nat} {n : Nat} (hn : n = max xs.length ys.length) : (xs ++ List.replicate (n - xs.length) 0).length = n ∧ (ys ++ List.replicate (n - ys.length) 0).length = n := by simp; omega
theorem pad_w {xs : List Nat} (h : Wf xs) (k : Nat) : Wf (xs ++ List.replicate k 0) := by
  intro x hx
  rcases List.mem_append.1 hx with h1 | h1
  · exact h x h1
  · rw [(List.mem_replicate.1 h1).2]; decide
set_option maxRecDepth 100000 in
set_option maxHeartbeats 40000000 in
theorem blind_any (va vb : Value) (xs ys : List Nat) (c d : Cq) (w : World) (ha : URow w va xs) (hb : URow w vb ys) (hwa : Wf xs) (hwb : Wf ys) (hc : c.ok) (hd : d.ok) : Calls Try.prog 5 #[va, vb, cq2A c d] w (TwP w) := by
  have AW := Lib.hid awake_any
  have B0 := Lib.hid (below_alloc w (cq2O c d))
  have hO := heap_alloc_new w (cq2O c d)
  have Y0 := Lib.hid (show (w.alloc (cq2O c d)).cell? ⟨w.heap.size, 0, none⟩ = some (.int .u64 (c.m : Int)) ∧ (w.alloc (cq2O c d)).cell? ⟨w.heap.size, 1, none⟩ = some (.int .i64 c.x) ∧ (w.alloc (cq2O c d)).cell? ⟨w.heap.size, 2, none⟩ = some (.int .i64 c.y) ∧ (w.alloc (cq2O c d)).cell? ⟨w.heap.size, 3, none⟩ = some (.int .i64 c.k) ∧ (w.alloc (cq2O c d)).cell? ⟨w.heap.size, 4, none⟩ = some (.int .u64 (d.m : Int)) from
    ⟨cell_blk hO 0, cell_blk hO 1, cell_blk hO 2, cell_blk hO 3, cell_blk hO 4⟩)
  have HA := Lib.hid (ha.below (below_alloc w (cq2O c d)))
  have HB := Lib.hid (hb.below (below_alloc w (cq2O c d)))
  obtain ⟨m0, x, y, k⟩ := c
  obtain ⟨m1, x1, y1', k1⟩ := d
  obtain ⟨hm, hx, hy, hk⟩ := hc
  obtain ⟨hm1, _, _, _⟩ := hd
  unfold cq2A
  dsimp only at hm hm1 hx hy hk B0 Y0 HA HB ⊢
  obtain ⟨q1, cp1, rfl, _⟩ := ha
  obtain ⟨q2, cp2, rfl, _⟩ := hb
  clear hO
  by_cases hf : 200 < xs.length
  · have t1 : decide ((200 : Int) < (xs.length : Int)) = true := decide_eq_true (by omega)
    have t1n : decide (200 < xs.length) = true := decide_eq_true hf
    clear hwa hwb hm hm1 hx hy hk hf
    go_enter Try.func5, Try.ntmps5
    go_wp2_with (first
      | (go_at_call 19; (with_reducible refine (AW.out _).mono ?_); rintro e w13 ⟨rfl, hb13⟩))
    go_ret
    exact ⟨rfl, B0.out.trans (hb13.mono B0.out.size)⟩
  have t1 : decide ((200 : Int) < (xs.length : Int)) = false := decide_eq_false (by omega)
  by_cases hf2 : 200 < ys.length
  · have t2 : decide ((200 : Int) < (ys.length : Int)) = true := decide_eq_true (by omega)
    have t2n : decide (200 < ys.length) = true := decide_eq_true hf2
    clear hwa hwb hm hm1 hx hy hk hf hf2
    go_enter Try.func5, Try.ntmps5
    go_wp2_with (first
      | (go_at_call 19; (with_reducible refine (AW.out _).mono ?_); rintro e w13 ⟨rfl, hb13⟩))
    go_ret
    exact ⟨rfl, B0.out.trans (hb13.mono B0.out.size)⟩
  have t2 : decide ((200 : Int) < (ys.length : Int)) = false := decide_eq_false (by omega)
  obtain ⟨n, hn⟩ : ∃ n, n = max xs.length ys.length := ⟨_, rfl⟩
  obtain ⟨hlx, hly⟩ := pad_len hn
  obtain ⟨lx, hxl⟩ : ∃ l, l = xs.length := ⟨_, rfl⟩
  obtain ⟨ly, hyl⟩ : ∃ l, l = ys.length := ⟨_, rfl⟩
  rw [← hxl, ← hyl] at hn
  rw [← hxl] at t1 hlx HA ⊢
  rw [← hyl] at t2 hly HB ⊢
  have hnn : lx ≤ n ∧ ly ≤ n ∧ n ≤ 200 := by omega
  have e1 : (if (lx : Int) < (ly : Int) then (ly : Int) else (lx : Int)) = (n : Int) := by split <;> omega
  have e1n : (if lx < ly then (ly : Int) else (lx : Int)) = (n : Int) := by split <;> omega
  have e2 : IntKind.i64.wrap ((n : Int) - (lx : Int)) = ((n - lx : Nat) : Int) := by rw [IntKind.wrap_i64]; omega
  have e3 : IntKind.i64.wrap ((n : Int) - (ly : Int)) = ((n - ly : Nat) : Int) := by rw [IntKind.wrap_i64]; omega
  obtain ⟨kx, hkx⟩ : ∃ z, z = n - lx := ⟨_, rfl⟩
  obtain ⟨ky, hky⟩ : ∃ z, z = n - ly := ⟨_, rfl⟩
  rw [← hkx] at e2 hlx
  rw [← hky] at e3 hly
  obtain ⟨v1, w1, v2, w2, r1, r2, h2, b2⟩ := run_pad (w.alloc (cq2O ⟨m0, x, y, k⟩ ⟨m1, x1, y1', k1⟩)) q1 cp1 lx kx xs hxl HA.out (by omega)
  rw [show (w.alloc (cq2O ⟨m0, x, y, k⟩ ⟨m1, x1, y1', k1⟩)).heap.size = w.heap.size + 1 by simp] at r1
  have R1 := Lib.hid r1
  have R2 := Lib.hid r2
  have H2 := Lib.hid h2
  have C2 := Lib.hid b2
  have AX := Lib.hid (arena_any v2 (xs ++ List.replicate kx 0) w2 h2 (pad_w hwa kx) (by omega))
  unfold ArenaP at AX
  have AY := Lib.hid (fun v W (h : URow W v (ys ++ List.replicate ky 0)) => arena_any v (ys ++ List.replicate ky 0) W h (pad_w hwb ky) (by omega))
  unfold ArenaP at AY
  have RY := Lib.hid (fun W (h : URow W (.slice q2 ly cp2) ys) => run_pad W q2 cp2 ly ky ys hyl h (by omega))
  obtain ⟨N, hN⟩ : ∃ N, N = max n 1 := ⟨_, rfl⟩
  have hTx : arT (xs ++ List.replicate kx 0) = padT n := by unfold arT; rw [hlx]
  have hTy : arT (ys ++ List.replicate ky 0) = padT n := by unfold arT; rw [hly]
  have hCx : (arC (xs ++ List.replicate kx 0)).length = N := by unfold arC; rw [padC_len (Nat.le_refl _) (by unfold arN; omega)]; unfold arN; omega
  have hCy : (arC (ys ++ List.replicate ky 0)).length = N := by unfold arC; rw [padC_len (Nat.le_refl _) (by unfold arN; omega)]; unfold arN; omega
  obtain ⟨T0, hT0⟩ : ∃ T, T = padT n := ⟨_, rfl⟩
  rw [hTx, ← hT0] at AX
  rw [hTy, ← hT0] at AY
  obtain ⟨Cx, hcx⟩ : ∃ C, C = arC (xs ++ List.replicate kx 0) := ⟨_, rfl⟩
  obtain ⟨Cy, hcy⟩ : ∃ C, C = arC (ys ++ List.replicate ky 0) := ⟨_, rfl⟩
  rw [← hcx] at AX hCx
  rw [← hcy] at AY hCy
  obtain ⟨E1, E2, E3, E4, E5, T1, T2, T3, T4, T5, hfive⟩ := five_all N x y k hx hy hk T0
  obtain ⟨ma, hma⟩ : ∃ z, z = ofM m0 := ⟨_, rfl⟩
  obtain ⟨mb, hmb⟩ : ∃ z, z = ofM m1 := ⟨_, rfl⟩
  have FA := Lib.hid (hfive ma (hma ▸ ofM_mask m0))
  have FB := Lib.hid (hfive mb (hmb ▸ ofM_mask m1))
  have OA := Lib.hid (of_same m0 hm)
  have OB := Lib.hid (of_same m1 hm1)
  rw [← hma] at OA
  rw [← hmb] at OB
  have LX := Lib.hid (And.intro hCx hCy)
  clear hfive hma hmb hTx hTy hCx hCy hcx hcy hT0 hN r1 r2 h2 b2 hlx hly hn hkx hky hxl hyl hwa hwb hf hf2 hm hm1 hx hy hk HA
  have y0 := Y0.out.1
  have y1 := Y0.out.2.1
  have y2 := Y0.out.2.2.1
  have y3 := Y0.out.2.2.2.1
  have y4 := Y0.out.2.2.2.2
  go_enter Try.func5, Try.ntmps5
  go_upto_region 5 with (first
    | (at_builtin; refine Lib.wpList_append_run _ (by rfl) _ _ _ _ (by rfl) _ _ (by rfl) (by rfl) _ _ R1.out ?_)
    | (at_builtin; refine Lib.wpList_append_run _ (by rfl) _ _ _ _ (by rfl) _ _ (by rfl) (by rfl) _ _ R2.out ?_)
    | (go_at_call 20; (with_reducible refine (AX.out).mono ?_); rintro e w3 ⟨pa, pa', rfl, hp⟩; have P3 := Lib.hid hp; have C3 := Lib.hid (C2.out.trans (hp.bel.mono C2.out.size)); obtain ⟨v4, w4, v5, w5, r4, r5, h5, b5⟩ := RY.out w3 (HB.out.below C3.out); have R4 := Lib.hid r4; have R5 := Lib.hid r5; have C5 := Lib.hid b5; have AY2 := Lib.hid (AY.out _ _ h5); clear hp r4 r5 h5 b5)
    | (at_builtin; refine Lib.wpList_append_run _ (by rfl) _ _ _ _ (by rfl) _ _ (by rfl) (by rfl) _ _ R4.out ?_)
    | (at_builtin; refine Lib.wpList_append_run _ (by rfl) _ _ _ _ (by rfl) _ _ (by rfl) (by rfl) _ _ R5.out ?_)
    | (go_at_call 20; (with_reducible refine (AY2.out).mono ?_); rintro e w6 ⟨qa, qa', rfl, hp⟩; have T6 := Lib.hid (tw_of P3.out hp C5.out LX.out.1 LX.out.2 C2.out); clear hp))
  clear R1 R2 AX HB
  go_upto_region 6 with (first
    | (at_builtin; refine Lib.wpList_append_run _ (by rfl) _ _ _ _ (by rfl) _ _ (by rfl) (by rfl) _ _ R4.out ?_)
    | (at_builtin; refine Lib.wpList_append_run _ (by rfl) _ _ _ _ (by rfl) _ _ (by rfl) (by rfl) _ _ R5.out ?_)
    | (go_at_call 20; (with_reducible refine (AY2.out).mono ?_); rintro e w6 ⟨qa, qa', rfl, hp⟩; have T6 := Lib.hid (tw_of P3.out hp C5.out LX.out.1 LX.out.2 C2.out); clear hp))
  clear R4 R5 AY AY2 RY P3 C3 C5 LX
  have z0 := (T6.out.bel.cell (World.block_lt_of_cell? _ _ Y0.out.1)).trans Y0.out.1
  have z1 := (T6.out.bel.cell (World.block_lt_of_cell? _ _ Y0.out.2.1)).trans Y0.out.2.1
  have z2 := (T6.out.bel.cell (World.block_lt_of_cell? _ _ Y0.out.2.2.1)).trans Y0.out.2.2.1
  have z3 := (T6.out.bel.cell (World.block_lt_of_cell? _ _ Y0.out.2.2.2.1)).trans Y0.out.2.2.2.1
  have z4 := (T6.out.bel.cell (World.block_lt_of_cell? _ _ Y0.out.2.2.2.2)).trans Y0.out.2.2.2.2
  clear y0 y1 y2 y3 y4 e1 e1n e2 e3 t1 t2
  go_quiet (first
    | (go_at_call 10; with_reducible exact Calls.quiet_of_same (OA.out _))
    | (go_at_call 10; with_reducible exact Calls.quiet_of_same (OB.out _)))
  generalize hw7 : World.drewN w6 _ = w7
  have T7 := Lib.hid (show Tw (w.alloc (cq2O ⟨m0, x, y, k⟩ ⟨m1, x1, y1', k1⟩)) w7 no N pa qa T0 T0 from hw7 ▸ T6.out.below (below_drewN (Below.refl _ _) _))
  have z0' : w7.cell? ⟨w.heap.size, 0, none⟩ = some (.int .u64 (m0 : Int)) := by rw [← hw7]; exact z0
  have z1' : w7.cell? ⟨w.heap.size, 1, none⟩ = some (.int .i64 x) := by rw [← hw7]; exact z1
  have z2' : w7.cell? ⟨w.heap.size, 2, none⟩ = some (.int .i64 y) := by rw [← hw7]; exact z2
  have z3' : w7.cell? ⟨w.heap.size, 3, none⟩ = some (.int .i64 k) := by rw [← hw7]; exact z3
  clear z0 z1 z2 z3 z4 hw7 T6
  go_upto_region 8 with fail
  have T8 := Lib.hid ((T7.out.fresh (cqO m0 x y k)).below ((Below.refl _ (w7.alloc (cqO m0 x y k))).drew))
  have D8 : Hid ((w7.alloc (cqO m0 x y k)).drew.heap[w7.heap.size]? = some (cqO m0 x y k)) := Lib.hid (heap_alloc_new w7 (cqO m0 x y k))
  have hsz : (w7.alloc (cqO m0 x y k)).heap.size = w7.heap.size + 1 := by simp
  have T8a : Hid (∀ o, Tw (w.alloc (cq2O ⟨m0, x, y, k⟩ ⟨m1, x1, y1', k1⟩)) ((w7.alloc (cqO m0 x y k)).alloc o).drew (fun k => (no k ∨ k = w7.heap.size) ∨ k = w7.heap.size + 1) N pa qa T0 T0) := Lib.hid fun o => by
    have := ((T7.out.fresh (cqO m0 x y k)).fresh o).below ((Below.refl _ ((w7.alloc (cqO m0 x y k)).alloc o)).drew)
    rw [hsz] at this
    exact this
  have Z8a : Hid (∀ o, ((w7.alloc (cqO m0 x y k)).alloc o).drew.heap[w7.heap.size + 1]? = some o) := Lib.hid fun o => by
    have := heap_alloc_new (w7.alloc (cqO m0 x y k)) o
    rw [hsz] at this
    exact this
  have D8a : Hid (∀ o, ((w7.alloc (cqO m0 x y k)).alloc o).drew.heap[w7.heap.size]? = some (cqO m0 x y k)) := Lib.hid fun o => cq_alloc (heap_alloc_new w7 (cqO m0 x y k)) o
  have NE8 : Hid (w7.heap.size ≠ w7.heap.size + 1) := Lib.hid (by omega)
  have GE8 : Hid ((w.alloc (cq2O ⟨m0, x, y, k⟩ ⟨m1, x1, y1', k1⟩)).heap.size ≤ w7.heap.size + 1) := Lib.hid (Nat.le_succ_of_le T7.out.bel.size)
  clear z0' z1' z2' z3' T7 hsz
  have cc := cq_three (heap_alloc_new w7 (cqO m0 x y k))
  have x8 := cc.1
  have y8 := cc.2.1
  have k8 := cc.2.2
  clear cc
  go_cut [15] from 65 to 102 (fun s15 wx => FiP (w.alloc (cq2O ⟨m0, x, y, k⟩ ⟨m1, x1, y1', k1⟩)) (fun k => no k ∨ k = w7.heap.size) N pa qa T5 T0 w7.heap.size m0 x y k E1 E2 E3 E4 E5 s15 wx)
  case first =>
    clear FB OA OB Y0 B0 hnn
    go_region_held3 (fun w' => w'.cell? ⟨w7.heap.size, 1, none⟩ = some (.int .i64 x) ∧ w'.cell? ⟨w7.heap.size, 2, none⟩ = some (.int .i64 y) ∧ w'.cell? ⟨w7.heap.size, 3, none⟩ = some (.int .i64 k))
      (first | with_reducible exact cq_three ((set5_other NE.out).trans D14.out) | with_reducible exact cq_three (cq_alloc D14.out _) | with_reducible exact cq_three D14.out | with_reducible exact cq_three (cq_alloc D13.out _) | with_reducible exact cq_three D13.out | with_reducible exact cq_three (cq_alloc D12.out _) | with_reducible exact cq_three D12.out | with_reducible exact cq_three (cq_alloc D11.out _) | with_reducible exact cq_three D11.out | with_reducible exact cq_three (cq_alloc D10.out _) | with_reducible exact cq_three D10.out | with_reducible exact cq_three (D8a.out _) | with_reducible exact cq_three D8.out)
      (first
      | (go_at_call 23; (with_reducible refine (FA.out.c1 _ _ _ _ _ _ T8.out).mono ?_); rintro e w10 ⟨rfl, h, hX⟩; have D10 := Lib.hid ((hX w7.heap.size (by first | exact .inr rfl | exact .inl (.inr rfl) | exact .inl (.inl (.inr rfl)))).trans D8.out); (try have Z := Lib.hid ((hX _ (.inr rfl)).trans Z.out)); have Q10 := Lib.hid h; have cc := cq_three D10.out; have x10 := cc.1; have y10 := cc.2.1; have k10 := cc.2.2; clear h hX cc)
      | (go_at_call 23; (with_reducible refine (FA.out.c1 _ _ _ _ _ _ (T8a.out _)).mono ?_); rintro e w10 ⟨rfl, h, hX⟩; have D10 := Lib.hid ((hX w7.heap.size (by first | exact .inr rfl | exact .inl (.inr rfl) | exact .inl (.inl (.inr rfl)))).trans (D8a.out _)); have Z := Lib.hid ((hX _ (.inr rfl)).trans (Z8a.out _)); have NE := NE8; have GE := GE8; have Q10 := Lib.hid h; have cc := cq_three D10.out; have x10 := cc.1; have y10 := cc.2.1; have k10 := cc.2.2; clear h hX cc)
      | (go_at_call 24; (with_reducible refine (FA.out.c2 _ _ _ _ _ _ Q10.out).mono ?_); rintro e w11 ⟨rfl, h, hX⟩; have D11 := Lib.hid ((hX w7.heap.size (by first | exact .inr rfl | exact .inl (.inr rfl) | exact .inl (.inl (.inr rfl)))).trans D10.out); (try have Z := Lib.hid ((hX _ (.inr rfl)).trans Z.out)); have Q11 := Lib.hid h; have cc := cq_three D11.out; have x11 := cc.1; have y11 := cc.2.1; have k11 := cc.2.2; clear h hX cc)
      | (go_at_call 24; (with_reducible refine (FA.out.c2 _ _ _ _ _ _ (Q10.out.fresh _)).mono ?_); rintro e w11 ⟨rfl, h, hX⟩; have D11 := Lib.hid ((hX w7.heap.size (by first | exact .inr rfl | exact .inl (.inr rfl) | exact .inl (.inl (.inr rfl)))).trans (cq_alloc D10.out _)); have Z := Lib.hid ((hX _ (.inr rfl)).trans (heap_alloc_new _ _)); have NE := Lib.hid (ne_new D10.out); have GE := Lib.hid (Q10.out.bel.size); have Q11 := Lib.hid h; have cc := cq_three D11.out; have x11 := cc.1; have y11 := cc.2.1; have k11 := cc.2.2; clear h hX cc)
      | (go_at_call 25; (with_reducible refine (FA.out.c3 _ _ _ _ _ _ Q11.out).mono ?_); rintro e w12 ⟨rfl, h, hX⟩; have D12 := Lib.hid ((hX w7.heap.size (by first | exact .inr rfl | exact .inl (.inr rfl) | exact .inl (.inl (.inr rfl)))).trans D11.out); (try have Z := Lib.hid ((hX _ (.inr rfl)).trans Z.out)); have Q12 := Lib.hid h; have cc := cq_three D12.out; have x12 := cc.1; have y12 := cc.2.1; have k12 := cc.2.2; clear h hX cc)
      | (go_at_call 25; (with_reducible refine (FA.out.c3 _ _ _ _ _ _ (Q11.out.fresh _)).mono ?_); rintro e w12 ⟨rfl, h, hX⟩; have D12 := Lib.hid ((hX w7.heap.size (by first | exact .inr rfl | exact .inl (.inr rfl) | exact .inl (.inl (.inr rfl)))).trans (cq_alloc D11.out _)); have Z := Lib.hid ((hX _ (.inr rfl)).trans (heap_alloc_new _ _)); have NE := Lib.hid (ne_new D11.out); have GE := Lib.hid (Q11.out.bel.size); have Q12 := Lib.hid h; have cc := cq_three D12.out; have x12 := cc.1; have y12 := cc.2.1; have k12 := cc.2.2; clear h hX cc)
      | (go_at_call 26; (with_reducible refine (FA.out.c4 _ _ _ _ _ _ Q12.out).mono ?_); rintro e w13 ⟨rfl, h, hX⟩; have D13 := Lib.hid ((hX w7.heap.size (by first | exact .inr rfl | exact .inl (.inr rfl) | exact .inl (.inl (.inr rfl)))).trans D12.out); (try have Z := Lib.hid ((hX _ (.inr rfl)).trans Z.out)); have Q13 := Lib.hid h; have cc := cq_three D13.out; have x13 := cc.1; have y13 := cc.2.1; have k13 := cc.2.2; clear h hX cc)
      | (go_at_call 26; (with_reducible refine (FA.out.c4 _ _ _ _ _ _ (Q12.out.fresh _)).mono ?_); rintro e w13 ⟨rfl, h, hX⟩; have D13 := Lib.hid ((hX w7.heap.size (by first | exact .inr rfl | exact .inl (.inr rfl) | exact .inl (.inl (.inr rfl)))).trans (cq_alloc D12.out _)); have Z := Lib.hid ((hX _ (.inr rfl)).trans (heap_alloc_new _ _)); have NE := Lib.hid (ne_new D12.out); have GE := Lib.hid (Q12.out.bel.size); have Q13 := Lib.hid h; have cc := cq_three D13.out; have x13 := cc.1; have y13 := cc.2.1; have k13 := cc.2.2; clear h hX cc)
      | (go_at_call 27; (with_reducible refine (FA.out.c5 _ _ _ _ _ _ Q13.out).mono ?_); rintro e w14 ⟨rfl, h, hX⟩; have D14 := Lib.hid ((hX w7.heap.size (by first | exact .inr rfl | exact .inl (.inr rfl) | exact .inl (.inl (.inr rfl)))).trans D13.out); (try have Z := Lib.hid ((hX _ (.inr rfl)).trans Z.out)); have Q14 := Lib.hid h; have cc := cq_three D14.out; have x14 := cc.1; have y14 := cc.2.1; have k14 := cc.2.2; (try have zb := err_cells Z.out); (try have zc := zb.1); (try have zd := zb.2.1); (try have ze := zb.2.2.1); (try have zf := zb.2.2.2.1); (try have zg := zb.2.2.2.2); (try have fb := err_free Z.out); (try have fc := fb.1); (try have fd := fb.2.1); (try have fe := fb.2.2.1); (try have ff := fb.2.2.2.1); (try have fg := fb.2.2.2.2); clear h hX cc)
      | (go_at_call 27; (with_reducible refine (FA.out.c5 _ _ _ _ _ _ (Q13.out.fresh _)).mono ?_); rintro e w14 ⟨rfl, h, hX⟩; have D14 := Lib.hid ((hX w7.heap.size (by first | exact .inr rfl | exact .inl (.inr rfl) | exact .inl (.inl (.inr rfl)))).trans (cq_alloc D13.out _)); have Z := Lib.hid ((hX _ (.inr rfl)).trans (heap_alloc_new _ _)); have NE := Lib.hid (ne_new D13.out); have GE := Lib.hid (Q13.out.bel.size); have Q14 := Lib.hid h; have cc := cq_three D14.out; have x14 := cc.1; have y14 := cc.2.1; have k14 := cc.2.2; (try have zb := err_cells Z.out); (try have zc := zb.1); (try have zd := zb.2.1); (try have ze := zb.2.2.1); (try have zf := zb.2.2.2.1); (try have zg := zb.2.2.2.2); (try have fb := err_free Z.out); (try have fc := fb.1); (try have fd := fb.2.1); (try have fe := fb.2.2.1); (try have ff := fb.2.2.2.1); (try have fg := fb.2.2.2.2); clear h hX cc))
    all_goals
      go_wp2
      go_meet
      first
        | exact fi_last Q14.out D14.out
        | exact fi_set Q14.out GE.out D14.out NE.out Z.out
  case rest =>
    obtain ⟨G, rfl, hT, hD, hG⟩ := hcut
    have T9 := Lib.hid (hT.swap.below ((Below.refl _ wc).drew))
    have D9 : Hid (wc.drew.heap[w7.heap.size]? = some (cqO m0 x y k)) := Lib.hid hD
    have H9 : Hid (wc.drew.heap[G]? = some (errO E1 E2 E3 E4 E5)) := Lib.hid hG
    have T9a : Hid (∀ o, Tw (w.alloc (cq2O ⟨m0, x, y, k⟩ ⟨m1, x1, y1', k1⟩)) (wc.alloc o).drew (fun k => ((no k ∨ k = w7.heap.size) ∨ k = G) ∨ k = wc.heap.size) N qa pa T0 T5) := Lib.hid fun o => (hT.swap.fresh o).below ((Below.refl _ (wc.alloc o)).drew)
    have Z9a : Hid (∀ o, (wc.alloc o).drew.heap[wc.heap.size]? = some o) := Lib.hid fun o => heap_alloc_new wc o
    have D9a : Hid (∀ o, (wc.alloc o).drew.heap[w7.heap.size]? = some (cqO m0 x y k)) := Lib.hid fun o => cq_alloc hD o
    have H9a : Hid (∀ o, (wc.alloc o).drew.heap[G]? = some (errO E1 E2 E3 E4 E5)) := Lib.hid fun o => any_alloc hG o
    have NE9 := Lib.hid (ne_new hD)
    have NG9 := Lib.hid (ne_new hG)
    have GE9 := Lib.hid (hT.bel.size)
    have cc := cq_three hD
    have x9 := cc.1
    have y9 := cc.2.1
    have k9 := cc.2.2
    clear cc hT hD hG x8 y8 k8 T8 D8 T8a Z8a D8a NE8 GE8
    go_upto_region 9 with fail
    go_cut [16] from 103 to 140 (fun s16 wx => FiP (w.alloc (cq2O ⟨m0, x, y, k⟩ ⟨m1, x1, y1', k1⟩)) (fun k => (no k ∨ k = w7.heap.size) ∨ k = G) N qa pa T5 T5 w7.heap.size m0 x y k E1 E2 E3 E4 E5 s16 wx ∧ wx.heap[G]? = some (errO E1 E2 E3 E4 E5))
    case first =>
      clear FA OA OB Y0 B0 hnn
      go_region_held3 (fun w' => w'.cell? ⟨w7.heap.size, 1, none⟩ = some (.int .i64 x) ∧ w'.cell? ⟨w7.heap.size, 2, none⟩ = some (.int .i64 y) ∧ w'.cell? ⟨w7.heap.size, 3, none⟩ = some (.int .i64 k))
        (first | with_reducible exact cq_three ((set5_other NE.out).trans D24.out) | with_reducible exact cq_three (cq_alloc D24.out _) | with_reducible exact cq_three D24.out | with_reducible exact cq_three (cq_alloc D23.out _) | with_reducible exact cq_three D23.out | with_reducible exact cq_three (cq_alloc D22.out _) | with_reducible exact cq_three D22.out | with_reducible exact cq_three (cq_alloc D21.out _) | with_reducible exact cq_three D21.out | with_reducible exact cq_three (cq_alloc D20.out _) | with_reducible exact cq_three D20.out | with_reducible exact cq_three (D9a.out _) | with_reducible exact cq_three D9.out)
        (first
      | (go_at_call 23; (with_reducible refine (FB.out.c1 _ _ _ _ _ _ T9.out).mono ?_); rintro e w20 ⟨rfl, h, hX⟩; have D20 := Lib.hid ((hX w7.heap.size (by first | exact .inr rfl | exact .inl (.inr rfl) | exact .inl (.inl (.inr rfl)))).trans D9.out); have H20 := Lib.hid ((hX G (by first | exact .inr rfl | exact .inl (.inr rfl) | exact .inl (.inl (.inr rfl)))).trans H9.out); (try have Z := Lib.hid ((hX _ (.inr rfl)).trans Z.out)); have Q20 := Lib.hid h; have cc := cq_three D20.out; have x20 := cc.1; have y20 := cc.2.1; have k20 := cc.2.2; clear h hX cc)
      | (go_at_call 23; (with_reducible refine (FB.out.c1 _ _ _ _ _ _ (T9a.out _)).mono ?_); rintro e w20 ⟨rfl, h, hX⟩; have D20 := Lib.hid ((hX w7.heap.size (by first | exact .inr rfl | exact .inl (.inr rfl) | exact .inl (.inl (.inr rfl)))).trans (D9a.out _)); have H20 := Lib.hid ((hX G (by first | exact .inr rfl | exact .inl (.inr rfl) | exact .inl (.inl (.inr rfl)))).trans (H9a.out _)); have Z := Lib.hid ((hX _ (.inr rfl)).trans (Z9a.out _)); have NE := NE9; have GE := GE9; have NG := NG9; have Q20 := Lib.hid h; have cc := cq_three D20.out; have x20 := cc.1; have y20 := cc.2.1; have k20 := cc.2.2; clear h hX cc)
      | (go_at_call 24; (with_reducible refine (FB.out.c2 _ _ _ _ _ _ Q20.out).mono ?_); rintro e w21 ⟨rfl, h, hX⟩; have D21 := Lib.hid ((hX w7.heap.size (by first | exact .inr rfl | exact .inl (.inr rfl) | exact .inl (.inl (.inr rfl)))).trans D20.out); have H21 := Lib.hid ((hX G (by first | exact .inr rfl | exact .inl (.inr rfl) | exact .inl (.inl (.inr rfl)))).trans H20.out); (try have Z := Lib.hid ((hX _ (.inr rfl)).trans Z.out)); have Q21 := Lib.hid h; have cc := cq_three D21.out; have x21 := cc.1; have y21 := cc.2.1; have k21 := cc.2.2; clear h hX cc)
      | (go_at_call 24; (with_reducible refine (FB.out.c2 _ _ _ _ _ _ (Q20.out.fresh _)).mono ?_); rintro e w21 ⟨rfl, h, hX⟩; have D21 := Lib.hid ((hX w7.heap.size (by first | exact .inr rfl | exact .inl (.inr rfl) | exact .inl (.inl (.inr rfl)))).trans (cq_alloc D20.out _)); have H21 := Lib.hid ((hX G (by first | exact .inr rfl | exact .inl (.inr rfl) | exact .inl (.inl (.inr rfl)))).trans (any_alloc H20.out _)); have Z := Lib.hid ((hX _ (.inr rfl)).trans (heap_alloc_new _ _)); have NE := Lib.hid (ne_new D20.out); have NG := Lib.hid (ne_new H20.out); have GE := Lib.hid (Q20.out.bel.size); have Q21 := Lib.hid h; have cc := cq_three D21.out; have x21 := cc.1; have y21 := cc.2.1; have k21 := cc.2.2; clear h hX cc)
      | (go_at_call 25; (with_reducible refine (FB.out.c3 _ _ _ _ _ _ Q21.out).mono ?_); rintro e w22 ⟨rfl, h, hX⟩; have D22 := Lib.hid ((hX w7.heap.size (by first | exact .inr rfl | exact .inl (.inr rfl) | exact .inl (.inl (.inr rfl)))).trans D21.out); have H22 := Lib.hid ((hX G (by first | exact .inr rfl | exact .inl (.inr rfl) | exact .inl (.inl (.inr rfl)))).trans H21.out); (try have Z := Lib.hid ((hX _ (.inr rfl)).trans Z.out)); have Q22 := Lib.hid h; have cc := cq_three D22.out; have x22 := cc.1; have y22 := cc.2.1; have k22 := cc.2.2; clear h hX cc)
      | (go_at_call 25; (with_reducible refine (FB.out.c3 _ _ _ _ _ _ (Q21.out.fresh _)).mono ?_); rintro e w22 ⟨rfl, h, hX⟩; have D22 := Lib.hid ((hX w7.heap.size (by first | exact .inr rfl | exact .inl (.inr rfl) | exact .inl (.inl (.inr rfl)))).trans (cq_alloc D21.out _)); have H22 := Lib.hid ((hX G (by first | exact .inr rfl | exact .inl (.inr rfl) | exact .inl (.inl (.inr rfl)))).trans (any_alloc H21.out _)); have Z := Lib.hid ((hX _ (.inr rfl)).trans (heap_alloc_new _ _)); have NE := Lib.hid (ne_new D21.out); have NG := Lib.hid (ne_new H21.out); have GE := Lib.hid (Q21.out.bel.size); have Q22 := Lib.hid h; have cc := cq_three D22.out; have x22 := cc.1; have y22 := cc.2.1; have k22 := cc.2.2; clear h hX cc)
      | (go_at_call 26; (with_reducible refine (FB.out.c4 _ _ _ _ _ _ Q22.out).mono ?_); rintro e w23 ⟨rfl, h, hX⟩; have D23 := Lib.hid ((hX w7.heap.size (by first | exact .inr rfl | exact .inl (.inr rfl) | exact .inl (.inl (.inr rfl)))).trans D22.out); have H23 := Lib.hid ((hX G (by first | exact .inr rfl | exact .inl (.inr rfl) | exact .inl (.inl (.inr rfl)))).trans H22.out); (try have Z := Lib.hid ((hX _ (.inr rfl)).trans Z.out)); have Q23 := Lib.hid h; have cc := cq_three D23.out; have x23 := cc.1; have y23 := cc.2.1; have k23 := cc.2.2; clear h hX cc)
      | (go_at_call 26; (with_reducible refine (FB.out.c4 _ _ _ _ _ _ (Q22.out.fresh _)).mono ?_); rintro e w23 ⟨rfl, h, hX⟩; have D23 := Lib.hid ((hX w7.heap.size (by first | exact .inr rfl | exact .inl (.inr rfl) | exact .inl (.inl (.inr rfl)))).trans (cq_alloc D22.out _)); have H23 := Lib.hid ((hX G (by first | exact .inr rfl | exact .inl (.inr rfl) | exact .inl (.inl (.inr rfl)))).trans (any_alloc H22.out _)); have Z := Lib.hid ((hX _ (.inr rfl)).trans (heap_alloc_new _ _)); have NE := Lib.hid (ne_new D22.out); have NG := Lib.hid (ne_new H22.out); have GE := Lib.hid (Q22.out.bel.size); have Q23 := Lib.hid h; have cc := cq_three D23.out; have x23 := cc.1; have y23 := cc.2.1; have k23 := cc.2.2; clear h hX cc)
      | (go_at_call 27; (with_reducible refine (FB.out.c5 _ _ _ _ _ _ Q23.out).mono ?_); rintro e w24 ⟨rfl, h, hX⟩; have D24 := Lib.hid ((hX w7.heap.size (by first | exact .inr rfl | exact .inl (.inr rfl) | exact .inl (.inl (.inr rfl)))).trans D23.out); have H24 := Lib.hid ((hX G (by first | exact .inr rfl | exact .inl (.inr rfl) | exact .inl (.inl (.inr rfl)))).trans H23.out); (try have Z := Lib.hid ((hX _ (.inr rfl)).trans Z.out)); have Q24 := Lib.hid h; have cc := cq_three D24.out; have x24 := cc.1; have y24 := cc.2.1; have k24 := cc.2.2; (try have zb := err_cells Z.out); (try have zc := zb.1); (try have zd := zb.2.1); (try have ze := zb.2.2.1); (try have zf := zb.2.2.2.1); (try have zg := zb.2.2.2.2); (try have fb := err_free Z.out); (try have fc := fb.1); (try have fd := fb.2.1); (try have fe := fb.2.2.1); (try have ff := fb.2.2.2.1); (try have fg := fb.2.2.2.2); clear h hX cc)
      | (go_at_call 27; (with_reducible refine (FB.out.c5 _ _ _ _ _ _ (Q23.out.fresh _)).mono ?_); rintro e w24 ⟨rfl, h, hX⟩; have D24 := Lib.hid ((hX w7.heap.size (by first | exact .inr rfl | exact .inl (.inr rfl) | exact .inl (.inl (.inr rfl)))).trans (cq_alloc D23.out _)); have H24 := Lib.hid ((hX G (by first | exact .inr rfl | exact .inl (.inr rfl) | exact .inl (.inl (.inr rfl)))).trans (any_alloc H23.out _)); have Z := Lib.hid ((hX _ (.inr rfl)).trans (heap_alloc_new _ _)); have NE := Lib.hid (ne_new D23.out); have NG := Lib.hid (ne_new H23.out); have GE := Lib.hid (Q23.out.bel.size); have Q24 := Lib.hid h; have cc := cq_three D24.out; have x24 := cc.1; have y24 := cc.2.1; have k24 := cc.2.2; (try have zb := err_cells Z.out); (try have zc := zb.1); (try have zd := zb.2.1); (try have ze := zb.2.2.1); (try have zf := zb.2.2.2.1); (try have zg := zb.2.2.2.2); (try have fb := err_free Z.out); (try have fc := fb.1); (try have fd := fb.2.1); (try have fe := fb.2.2.1); (try have ff := fb.2.2.2.1); (try have fg := fb.2.2.2.2); clear h hX cc))
      all_goals
        go_wp2
        go_meet
        first
          | exact ⟨fi_last Q24.out D24.out, any_alloc H24.out _⟩
          | exact ⟨fi_set Q24.out GE.out D24.out NE.out Z.out, (set5_other NG.out).trans H24.out⟩
    case rest =>
      obtain ⟨⟨G2, rfl, hT, _, hG2⟩, hG1⟩ := hcut
      obtain ⟨a0, a1, a2, a3, a4⟩ := err_cells hG1
      obtain ⟨b0, b1, b2, b3, b4⟩ := err_cells hG2
      have T30 := Lib.hid hT
      have hlg := tw_long hT
      clear hT hG1 hG2 x9 y9 k9 T9 D9 H9 T9a Z9a D9a H9a NE9 NG9 GE9 FA FB OA OB
      go_wp2_with (first
        | (go_at_call 29; (with_reducible refine (tw_events T30.out.swap).mono ?_); rintro e w31 ⟨v31, rfl, he, hb⟩; have T31 := Lib.hid (T30.out.below hb); have V31 := Lib.hid he; clear he hb)
        | (go_at_call 29; (with_reducible refine (tw_events T31.out).mono ?_); rintro e w32 ⟨v32, rfl, he, hb⟩; have T32 := Lib.hid (T31.out.below hb); have V32 := Lib.hid he; have U32 := Lib.hid (V31.out.below hb); clear he hb)
        | (go_at_call 28; (with_reducible refine (law_evs U32.out V32.out (by omega)).mono ?_); rintro e w33 ⟨rfl, hb⟩; have T33 := Lib.hid (T32.out.below hb); clear hb)
        | (go_at_call 19; (with_reducible refine (AW.out _).mono ?_); rintro e w34 ⟨rfl, hb⟩; have T34 := Lib.hid (T33.out.below hb); clear hb))
      go_ret
      exact ⟨rfl, B0.out.trans (T34.out.bel.mono B0.out.size)⟩
end Go.Proofs.Ytjckkohmgalabaa
