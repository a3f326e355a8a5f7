/- CompareCalls. -/
import Derived.Test.YtalnhbjpfnodiaaYo
namespace Go.Proofs.Ytalnhbjpfnodiaa
open Go.RowKit
/-- Calls in memory. -/
def CcS (W : World) (v : Value) (l : List Cc) : Prop :=
  ∃ q c, v = .slice q l.length c ∧ ∀ i x, l[i]? = some x → ∃ b o, q = some ⟨b, o, none⟩ ∧ b < W.heap.size ∧ x.ok ∧ W.cell? ⟨b, o + i * 3, none⟩ = some (.int .i64 x.x) ∧ W.cell? ⟨b, o + i * 3 + 1, none⟩ = some (.int .i64 x.y) ∧ W.cell? ⟨b, o + i * 3 + 2, none⟩ = some (.int .i64 x.k)
def NilP (w : World) (e : Ending) (w' : World) : Prop := e = .returned (.bool true) ∧ Below w.heap.size w w'
set_option maxRecDepth 100000 in
theorem do_nil0 (w : World) : Calls Try.prog 23 #[.pointer none, .pointer none, .int .u8 0, .agg #[.int .i64 0, .int .i64 1, .int .i64 1]] w (NilP w) := by
  have B0 := below_alloc w (ccO 0 1 1)
  have y := cc_cells (heap_alloc_new w (ccO 0 1 1))
  have y0 := y.1
  have y1 := y.2.1
  have y2 := y.2.2
  clear y
  have HB0 := Lib.hid B0
  have Y0 := Lib.hid (And.intro y0 (And.intro y1 y2))
  have A := Lib.hid eqr_nil
  have R := Lib.hid reqr_nil
  clear B0
  go_enter Try.func23, Try.ntmps23
  go_wp2_with (first
    | (go_at_call 26; (with_reducible refine (A.out _).mono ?_); rintro e w2 ⟨rfl, h2⟩; have z0 := (h2.cell (World.block_lt_of_cell? _ _ Y0.out.1)).trans Y0.out.1; have z1 := (h2.cell (World.block_lt_of_cell? _ _ Y0.out.2.1)).trans Y0.out.2.1; have z2 := (h2.cell (World.block_lt_of_cell? _ _ Y0.out.2.2)).trans Y0.out.2.2; have P2 := Lib.hid (HB0.out.trans (h2.mono HB0.out.size)); clear h2)
    | (go_at_call 45; (with_reducible refine (R.out _).mono ?_); rintro e w3 ⟨rfl, rfl⟩))
  go_ret
  exact ⟨rfl, P2.out⟩
set_option maxRecDepth 100000 in
theorem do_nil1 (w : World) : Calls Try.prog 23 #[.pointer none, .pointer none, .int .u8 1, .agg #[.int .i64 0, .int .i64 1, .int .i64 1]] w (NilP w) := by
  have B0 := below_alloc w (ccO 0 1 1)
  have y := cc_cells (heap_alloc_new w (ccO 0 1 1))
  have y0 := y.1
  have y1 := y.2.1
  have y2 := y.2.2
  clear y
  have HB0 := Lib.hid B0
  have Y0 := Lib.hid (And.intro y0 (And.intro y1 y2))
  have A := Lib.hid ltr_nil
  have R := Lib.hid rltr_nil
  clear B0
  go_enter Try.func23, Try.ntmps23
  go_wp2_with (first
    | (go_at_call 25; (with_reducible refine (A.out _).mono ?_); rintro e w2 ⟨rfl, h2⟩; have z0 := (h2.cell (World.block_lt_of_cell? _ _ Y0.out.1)).trans Y0.out.1; have z1 := (h2.cell (World.block_lt_of_cell? _ _ Y0.out.2.1)).trans Y0.out.2.1; have z2 := (h2.cell (World.block_lt_of_cell? _ _ Y0.out.2.2)).trans Y0.out.2.2; have P2 := Lib.hid (HB0.out.trans (h2.mono HB0.out.size)); clear h2)
    | (go_at_call 46; (with_reducible refine (R.out _).mono ?_); rintro e w3 ⟨rfl, rfl⟩))
  go_ret
  exact ⟨rfl, P2.out⟩
set_option maxRecDepth 100000 in
theorem do_nil2 (w : World) : Calls Try.prog 23 #[.pointer none, .pointer none, .int .u8 2, .agg #[.int .i64 0, .int .i64 1, .int .i64 1]] w (NilP w) := by
  have B0 := below_alloc w (ccO 0 1 1)
  have y := cc_cells (heap_alloc_new w (ccO 0 1 1))
  have y0 := y.1
  have y1 := y.2.1
  have y2 := y.2.2
  clear y
  have HB0 := Lib.hid B0
  have A := Lib.hid ex_nil
  have R := Lib.hid rex_nil
  clear B0
  go_enter Try.func23, Try.ntmps23
  go_wp2
  go_quiet (first
    | (go_at_call 28; with_reducible exact Calls.quiet_of_same (A.out _))
    | (go_at_call 47; with_reducible exact Calls.quiet_of_same (R.out _)))
  go_wp2
  go_ret
  exact ⟨rfl, HB0.out.trans ((below_drewN (Below.refl _ _) _).mono HB0.out.size)⟩
set_option maxRecDepth 100000 in
theorem do_nil3 (w : World) : Calls Try.prog 23 #[.pointer none, .pointer none, .int .u8 3, .agg #[.int .i64 0, .int .i64 1, .int .i64 1]] w (NilP w) := by
  have B0 := below_alloc w (ccO 0 1 1)
  have y := cc_cells (heap_alloc_new w (ccO 0 1 1))
  have y0 := y.1
  have y1 := y.2.1
  have y2 := y.2.2
  clear y
  have HB0 := Lib.hid B0.drew
  have Y0 := Lib.hid (And.intro y0 (And.intro y1 y2))
  have A := Lib.hid so_nil
  have R := Lib.hid rso_nil
  clear B0
  go_enter Try.func23, Try.ntmps23
  go_wp2
  go_region_held3 (fun w' => w'.cell? ⟨w.heap.size, 0, none⟩ = some (.int .i64 0) ∧ w'.cell? ⟨w.heap.size, 1, none⟩ = some (.int .i64 1) ∧ w'.cell? ⟨w.heap.size, 2, none⟩ = some (.int .i64 1))
    (first | exact ⟨y0, y1, y2⟩ | exact ⟨z0, z1, z2⟩)
    (first
      | (go_at_call 29; (with_reducible refine (A.out _).mono ?_); rintro e w2 ⟨rfl, h2⟩; have z0 := (h2.cell (World.block_lt_of_cell? _ _ Y0.out.1)).trans Y0.out.1; have z1 := (h2.cell (World.block_lt_of_cell? _ _ Y0.out.2.1)).trans Y0.out.2.1; have z2 := (h2.cell (World.block_lt_of_cell? _ _ Y0.out.2.2)).trans Y0.out.2.2; have P2 := Lib.hid (HB0.out.trans (h2.mono HB0.out.size)); clear h2)
      | (go_at_call 48; (with_reducible refine (R.out _).mono ?_); rintro e w3 ⟨rfl, rfl⟩))
  all_goals
    go_wp2
    go_ret
    exact ⟨rfl, P2.out⟩
def CallsR8 (w : World) (pa pb : Nat) (wr : World) : Prop := ∃ (cs : List Nat) (tr : List (Nat × Nat)), Pr w wr no pa pb cs [] tr cs [] tr
def CalP (w : World) (e : Ending) (w' : World) : Prop := e = .returned (.bool true) ∧ Below w.heap.size w w'
set_option maxRecDepth 100000 in
set_option maxHeartbeats 8000000 in
theorem calls_any (v1 v2 v3 : Value) (xs : List Nat) (l : List Cc) (ws : List Nat) (w : World) (h1 : URow w v1 xs) (hw : ∀ x ∈ xs, x < 2 ^ 64) (h2 : CcS w v2 l) (h3 : U8S w v3 ws) : Calls Try.prog 4 #[v1, v2, v3] w (CalP w) := by
  have AW := Lib.hid awake_any
  have H1 := Lib.hid h1
  obtain ⟨q1, c1, rfl, _⟩ := h1
  obtain ⟨q2, c2, rfl, hx2⟩ := h2
  obtain ⟨q3, c3, rfl, hx3⟩ := h3
  by_cases hf1 : 200 < xs.length
  · have t1 : decide ((200 : Int) < (xs.length : Int)) = true := decide_eq_true (by omega)
    clear hx2 hx3 hw hf1
    go_enter Try.func4, Try.ntmps4
    go_wp2_with (first
      | (go_at_call 21; (with_reducible refine (AW.out _).mono ?_); rintro e w13 ⟨rfl, hb13⟩))
    go_ret
    exact ⟨rfl, hb13⟩
  have AR := Lib.hid (arena_any _ xs w H1.out hw (by omega))
  unfold ArenaP at AR
  have t1 : decide ((200 : Int) < (xs.length : Int)) = false := decide_eq_false (by omega)
  obtain ⟨n1, hn1⟩ : ∃ n, n = xs.length := ⟨_, rfl⟩
  obtain ⟨n2, hn2⟩ : ∃ n, n = l.length := ⟨_, rfl⟩
  obtain ⟨n3, hn3⟩ : ∃ n, n = ws.length := ⟨_, rfl⟩
  rw [← hn1] at t1 AR ⊢
  rw [← hn2]
  rw [← hn3]
  have N2 := Lib.hid hn2
  have N3 := Lib.hid hn3
  have N1 := Lib.hid hn1
  clear hn1 hn2 hn3
  by_cases hf2 : 12 < n2
  · have t2 : decide ((12 : Int) < (n2 : Int)) = true := decide_eq_true (by omega)
    clear hx2 hx3 hw hf1 hf2 AR H1
    go_enter Try.func4, Try.ntmps4
    go_wp2_with (first
      | (go_at_call 21; (with_reducible refine (AW.out _).mono ?_); rintro e w13 ⟨rfl, hb13⟩))
    go_ret
    exact ⟨rfl, hb13⟩
  have t2 : decide ((12 : Int) < (n2 : Int)) = false := decide_eq_false (by omega)
  by_cases hf3 : 12 < n3
  · have t3 : decide ((12 : Int) < (n3 : Int)) = true := decide_eq_true (by omega)
    clear hx2 hx3 hw hf1 hf2 hf3 AR H1
    go_enter Try.func4, Try.ntmps4
    go_wp2_with (first
      | (go_at_call 21; (with_reducible refine (AW.out _).mono ?_); rintro e w13 ⟨rfl, hb13⟩))
    go_ret
    exact ⟨rfl, hb13⟩
  have t3 : decide ((12 : Int) < (n3 : Int)) = false := decide_eq_false (by omega)
  have HX2 := Lib.hid hx2
  have HX3 := Lib.hid hx3
  have HB : Hid (n2 ≤ 20) := Lib.hid (by omega)
  have D0 := Lib.hid do_nil0
  have D1 := Lib.hid do_nil1
  have D2 := Lib.hid do_nil2
  have D3 := Lib.hid do_nil3
  unfold NilP at D0 D1 D2 D3
  clear hx2 hx3 hw hf1 hf2 hf3 H1
  go_enter Try.func4, Try.ntmps4
  go_wp2_with (first
    | (go_at_call 22; (with_reducible refine (AR.out).mono ?_); rintro e w1 ⟨pa, pb, rfl, hp⟩; have P1 : Hid (CallsR8 w pa pb w1) := Lib.hid ⟨_, _, hp⟩; clear hp))
  clear t1 t2 t3
  go_loopw [9] (fun i wr => ∃ k : Nat, k ≤ n2 ∧ k ≤ n3 ∧ i = .int .i64 (k : Int) ∧ Hid (CallsR8 w pa pb wr)) (fun i _ => n2 - (intOf i).toNat)
  case atStart => exact ⟨0, Nat.zero_le _, Nat.zero_le _, rfl, P1⟩
  case round =>
    obtain ⟨k, hk2, hk3, rfl, hp⟩ := hrel
    clear P1
    obtain ⟨cs, tr, hpr⟩ := hp.out
    have PH := Lib.hid hpr
    clear hpr hp
    have hb20 := HB.out
    by_cases hl2 : k < n2
    · have u2 : decide ((k : Int) < (n2 : Int)) = true := decide_eq_true (by omega)
      have u2' : (k : Int) < (n2 : Int) := by omega
      by_cases hl3 : k < n3
      · have u3 : decide ((k : Int) < (n3 : Int)) = true := decide_eq_true (by omega)
        have u3' : (k : Int) < (n3 : Int) := by omega
        obtain ⟨⟨x, y, kk⟩, hx⟩ : ∃ x, l[k]? = some x := ⟨_, List.getElem?_eq_getElem (by rw [← N2.out]; exact hl2)⟩
        obtain ⟨wh, hwh⟩ : ∃ x, ws[k]? = some x := ⟨_, List.getElem?_eq_getElem (by rw [← N3.out]; exact hl3)⟩
        obtain ⟨b, o, hq2, hbl, hok, y1, y2, y3⟩ := HX2.out k _ hx
        obtain ⟨b3, o3, hq3, hbl3, y4⟩ := HX3.out k _ hwh
        dsimp only at y1 y2 y3
        subst hq2
        subst hq3
        have Y := Lib.hid (And.intro y1 (And.intro y2 (And.intro y3 y4)))
        have x1 := (PH.out.bel.cell (p := ⟨b, o + k * 3, none⟩) hbl).trans y1
        have x2 := (PH.out.bel.cell (p := ⟨b, o + k * 3 + 1, none⟩) hbl).trans y2
        have x3 := (PH.out.bel.cell (p := ⟨b, o + k * 3 + 2, none⟩) hbl).trans y3
        have x4 := (PH.out.bel.cell (p := ⟨b3, o3 + k, none⟩) hbl3).trans y4
        have DO := Lib.hid (show Calls Try.prog 23 #[.pointer (some ⟨pa, 0, none⟩), .pointer (some ⟨pb, 0, none⟩), .int .u8 (wh : Int), .agg #[.int .i64 x, .int .i64 y, .int .i64 kk]] wr.drew (DoPost8 w pa pb cs) from do_any (pr_drew PH.out) wh ⟨x, y, kk⟩ hok)
        clear hx hwh y1 y2 y3 y4 hok D0 D1 D2 D3 AW
        go_wp2
        go_region_held3 (fun w' => w'.cell? ⟨b, o + k * 3, none⟩ = some (.int .i64 x) ∧ w'.cell? ⟨b, o + k * 3 + 1, none⟩ = some (.int .i64 y) ∧ w'.cell? ⟨b, o + k * 3 + 2, none⟩ = some (.int .i64 kk) ∧ w'.cell? ⟨b3, o3 + k, none⟩ = some (.int .u8 (wh : Int)))
          (first | exact ⟨x1, x2, x3, x4⟩ | exact ⟨z1, z2, z3, z4⟩)
          (first
            | (go_at_call 23; (with_reducible refine (DO.out).mono ?_); rintro e w3 ⟨rfl, cs', tr', h3, _⟩; have P3 := Lib.hid h3; have z1 := (P3.out.bel.cell (p := ⟨b, o + k * 3, none⟩) hbl).trans Y.out.1; have z2 := (P3.out.bel.cell (p := ⟨b, o + k * 3 + 1, none⟩) hbl).trans Y.out.2.1; have z3 := (P3.out.bel.cell (p := ⟨b, o + k * 3 + 2, none⟩) hbl).trans Y.out.2.2.1; have z4 := (P3.out.bel.cell (p := ⟨b3, o3 + k, none⟩) hbl3).trans Y.out.2.2.2; clear h3)
            | (go_at_call 24; (with_reducible refine (same_any P3.out).mono ?_); rintro e w4 ⟨rfl, hb4⟩; have P4 := Lib.hid (P3.out.below hb4); clear hb4; have z1 := (P4.out.bel.cell (p := ⟨b, o + k * 3, none⟩) hbl).trans Y.out.1; have z2 := (P4.out.bel.cell (p := ⟨b, o + k * 3 + 1, none⟩) hbl).trans Y.out.2.1; have z3 := (P4.out.bel.cell (p := ⟨b, o + k * 3 + 2, none⟩) hbl).trans Y.out.2.2.1; have z4 := (P4.out.bel.cell (p := ⟨b3, o3 + k, none⟩) hbl3).trans Y.out.2.2.2))
        all_goals
          go_wp2
          go_roundw
          case rel => exact ⟨k + 1, by omega, by omega, by go_num, Lib.hid ⟨_, _, P4.out⟩⟩
          case measure => simp [intOf]; omega
      · obtain rfl : k = n3 := by omega
        have u3 : decide ((k : Int) < (k : Int)) = false := decide_eq_false (by omega)
        clear HX2 HX3 AR HB
        have Q0 := Lib.hid PH.out.bel
        clear PH
        go_wp2
        go_loopw [10] (fun q W4 => ∃ k : Nat, k ≤ 4 ∧ q = .int .i64 (k : Int) ∧ Hid (Below w.heap.size w W4)) (fun q _ => 4 - (intOf q).toNat)
        case atStart => exact ⟨0, Nat.zero_le _, rfl, Q0⟩
        case round =>
          obtain ⟨i, hi, rfl, hb⟩ := hrel
          clear Q0
          have hi5 : i = 0 ∨ i = 1 ∨ i = 2 ∨ i = 3 ∨ i = 4 := by omega
          rcases hi5 with rfl | rfl | rfl | rfl | rfl
          · go_wp2_with (first
              | (go_at_call 23; (with_reducible refine (D0.out _).mono ?_); rintro e w5 ⟨rfl, h5⟩; have Q5 := Lib.hid (hb.out.trans (h5.mono hb.out.size)); clear h5))
            go_roundw
            case rel => exact ⟨1, by omega, rfl, Q5⟩
            case measure => simp [intOf]
          · go_wp2_with (first
              | (go_at_call 23; (with_reducible refine (D1.out _).mono ?_); rintro e w5 ⟨rfl, h5⟩; have Q5 := Lib.hid (hb.out.trans (h5.mono hb.out.size)); clear h5))
            go_roundw
            case rel => exact ⟨2, by omega, rfl, Q5⟩
            case measure => simp [intOf]
          · go_wp2_with (first
              | (go_at_call 23; (with_reducible refine (D2.out _).mono ?_); rintro e w5 ⟨rfl, h5⟩; have Q5 := Lib.hid (hb.out.trans (h5.mono hb.out.size)); clear h5))
            go_roundw
            case rel => exact ⟨3, by omega, rfl, Q5⟩
            case measure => simp [intOf]
          · go_wp2_with (first
              | (go_at_call 23; (with_reducible refine (D3.out _).mono ?_); rintro e w5 ⟨rfl, h5⟩; have Q5 := Lib.hid (hb.out.trans (h5.mono hb.out.size)); clear h5))
            go_roundw
            case rel => exact ⟨4, by omega, rfl, Q5⟩
            case measure => simp [intOf]
          · go_wp2_with (first
              | (go_at_call 21; (with_reducible refine (AW.out _).mono ?_); rintro e w13 ⟨rfl, hb13⟩; have Q13 := Lib.hid (hb.out.trans (hb13.mono hb.out.size)); clear hb13))
            go_ret
            exact ⟨rfl, Q13.out⟩
    · obtain rfl : k = n2 := by omega
      have u2 : decide ((k : Int) < (k : Int)) = false := decide_eq_false (by omega)
      clear HX2 HX3 AR HB
      have Q0 := Lib.hid PH.out.bel
      clear PH
      go_wp2
      go_loopw [10] (fun q W4 => ∃ k : Nat, k ≤ 4 ∧ q = .int .i64 (k : Int) ∧ Hid (Below w.heap.size w W4)) (fun q _ => 4 - (intOf q).toNat)
      case atStart => exact ⟨0, Nat.zero_le _, rfl, Q0⟩
      case round =>
        obtain ⟨i, hi, rfl, hb⟩ := hrel
        clear Q0
        have hi5 : i = 0 ∨ i = 1 ∨ i = 2 ∨ i = 3 ∨ i = 4 := by omega
        rcases hi5 with rfl | rfl | rfl | rfl | rfl
        · go_wp2_with (first
            | (go_at_call 23; (with_reducible refine (D0.out _).mono ?_); rintro e w5 ⟨rfl, h5⟩; have Q5 := Lib.hid (hb.out.trans (h5.mono hb.out.size)); clear h5))
          go_roundw
          case rel => exact ⟨1, by omega, rfl, Q5⟩
          case measure => simp [intOf]
        · go_wp2_with (first
            | (go_at_call 23; (with_reducible refine (D1.out _).mono ?_); rintro e w5 ⟨rfl, h5⟩; have Q5 := Lib.hid (hb.out.trans (h5.mono hb.out.size)); clear h5))
          go_roundw
          case rel => exact ⟨2, by omega, rfl, Q5⟩
          case measure => simp [intOf]
        · go_wp2_with (first
            | (go_at_call 23; (with_reducible refine (D2.out _).mono ?_); rintro e w5 ⟨rfl, h5⟩; have Q5 := Lib.hid (hb.out.trans (h5.mono hb.out.size)); clear h5))
          go_roundw
          case rel => exact ⟨3, by omega, rfl, Q5⟩
          case measure => simp [intOf]
        · go_wp2_with (first
            | (go_at_call 23; (with_reducible refine (D3.out _).mono ?_); rintro e w5 ⟨rfl, h5⟩; have Q5 := Lib.hid (hb.out.trans (h5.mono hb.out.size)); clear h5))
          go_roundw
          case rel => exact ⟨4, by omega, rfl, Q5⟩
          case measure => simp [intOf]
        · go_wp2_with (first
            | (go_at_call 21; (with_reducible refine (AW.out _).mono ?_); rintro e w13 ⟨rfl, hb13⟩; have Q13 := Lib.hid (hb.out.trans (hb13.mono hb.out.size)); clear hb13))
          go_ret
          exact ⟨rfl, Q13.out⟩
end Go.Proofs.Ytalnhbjpfnodiaa
