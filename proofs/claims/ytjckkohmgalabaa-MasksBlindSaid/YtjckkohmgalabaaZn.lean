/- MasksCalls. -/
import Derived.Test.YtjckkohmgalabaaZm
namespace Go.Proofs.Ytjckkohmgalabaa
open Go.RowKit
/-- Calls in memory. -/
def CqS (W : World) (v : Value) (l : List Cq) : Prop :=
  ∃ q c, v = .slice q l.length c ∧ ∀ i x, l[i]? = some x → ∃ b o, q = some ⟨b, o, none⟩ ∧ b < W.heap.size ∧ x.ok ∧ W.cell? ⟨b, o + i * 4, none⟩ = some (.int .u64 (x.m : Int)) ∧ W.cell? ⟨b, o + i * 4 + 1, none⟩ = some (.int .i64 x.x) ∧ W.cell? ⟨b, o + i * 4 + 2, none⟩ = some (.int .i64 x.y) ∧ W.cell? ⟨b, o + i * 4 + 3, none⟩ = some (.int .i64 x.k)
/-- Bytes in memory. -/
def U8S (W : World) (v : Value) (l : List Nat) : Prop :=
  ∃ q c, v = .slice q l.length c ∧ ∀ (i x : Nat), l[i]? = some x → ∃ b o, q = some ⟨b, o, none⟩ ∧ b < W.heap.size ∧ W.cell? ⟨b, o + i, none⟩ = some (.int .u8 (x : Int))
def CallsR (w : World) (pa pb : Nat) (wr : World) : Prop := ∃ (cs : List Nat) (tr : List (Nat × Nat)), Pr w wr no pa pb cs [] tr cs [] tr
theorem Pr.of_below {w0 w1 W : World} {pa pb : Nat} {ca cb : List Nat} {ra rb : List Rg} {ta tb : List (Nat × Nat)} (h : Pr w1 W no pa pb ca ra ta cb rb tb) (hb : Below w0.heap.size w0 w1) : Pr w0 W no pa pb ca ra ta cb rb tb := by
  obtain ⟨⟨Fa, Fb, ha, hb2, ar, rr⟩, hbel, hx⟩ := h
  exact ⟨⟨Fa, Fb, fun k hk => ⟨Nat.le_trans hb.size (ha k hk).1, (ha k hk).2⟩, fun k hk => ⟨Nat.le_trans hb.size (hb2 k hk).1, (hb2 k hk).2⟩, ar, rr⟩, hb.trans (hbel.mono hb.size), hx⟩
theorem pr_drew {w W : World} {pa pb : Nat} {ca cb : List Nat} {ra rb : List Rg} {ta tb : List (Nat × Nat)} {X : Nat → Prop} (h : Pr w W X pa pb ca ra ta cb rb tb) : Pr w W.drew X pa pb ca ra ta cb rb tb := h.below (Below.refl _ W).drew
set_option maxRecDepth 100000 in
set_option maxHeartbeats 8000000 in
theorem calls_any (v1 v2 v3 : Value) (xs : List Nat) (l : List Cq) (ws : List Nat) (w : World) (h1 : URow w v1 xs) (hw : ∀ x ∈ xs, x < 2 ^ 64) (h2 : CqS w v2 l) (h3 : U8S w v3 ws) : Calls Try.prog 4 #[v1, v2, v3] w fun e w' => e = .returned (.bool true) ∧ Below w.heap.size w w' := by
  have AW := Lib.hid awake_any
  have H1 := Lib.hid h1
  obtain ⟨q1, c1, rfl, _⟩ := h1
  obtain ⟨q2, c2, rfl, hx2⟩ := h2
  obtain ⟨q3, c3, rfl, hx3⟩ := h3
  by_cases hf1 : 200 < xs.length
  · have t1 : decide ((200 : Int) < (xs.length : Int)) = true := decide_eq_true (by omega)
    clear hx2 hx3 hw hf1
    go_enter Try.func4, Try.ntmps4
    go_wp2_with (first
      | (go_at_call 19; (with_reducible refine (AW.out _).mono ?_); rintro e w13 ⟨rfl, hb13⟩))
    go_ret
    exact ⟨rfl, hb13⟩
  have AR := Lib.hid (arena_any _ xs w H1.out hw (by omega))
  unfold ArenaP at AR
  have t1 : decide ((200 : Int) < (xs.length : Int)) = false := decide_eq_false (by omega)
  obtain ⟨n1, hn1⟩ : ∃ n, n = xs.length := ⟨_, rfl⟩
  obtain ⟨n2, hn2⟩ : ∃ n, n = l.length := ⟨_, rfl⟩
  obtain ⟨n3, hn3⟩ : ∃ n, n = ws.length := ⟨_, rfl⟩
  rw [← hn1] at t1 AR ⊢
  rw [← hn2]
  rw [← hn3]
  have N2 := Lib.hid hn2
  have N3 := Lib.hid hn3
  have N1 := Lib.hid hn1
  clear hn1 hn2 hn3
  by_cases hf2 : 20 < n2
  · have t2 : decide ((20 : Int) < (n2 : Int)) = true := decide_eq_true (by omega)
    clear hx2 hx3 hw hf1 hf2 AR H1
    go_enter Try.func4, Try.ntmps4
    go_wp2_with (first
      | (go_at_call 19; (with_reducible refine (AW.out _).mono ?_); rintro e w13 ⟨rfl, hb13⟩))
    go_ret
    exact ⟨rfl, hb13⟩
  have t2 : decide ((20 : Int) < (n2 : Int)) = false := decide_eq_false (by omega)
  by_cases hf3 : 20 < n3
  · have t3 : decide ((20 : Int) < (n3 : Int)) = true := decide_eq_true (by omega)
    clear hx2 hx3 hw hf1 hf2 hf3 AR H1
    go_enter Try.func4, Try.ntmps4
    go_wp2_with (first
      | (go_at_call 19; (with_reducible refine (AW.out _).mono ?_); rintro e w13 ⟨rfl, hb13⟩))
    go_ret
    exact ⟨rfl, hb13⟩
  have t3 : decide ((20 : Int) < (n3 : Int)) = false := decide_eq_false (by omega)
  have HX2 := Lib.hid hx2
  have HX3 := Lib.hid hx3
  have HB : Hid (n2 ≤ 20) := Lib.hid (by omega)
  have DN := Lib.hid do_nil
  clear hx2 hx3 hw hf1 hf2 hf3 H1
  go_enter Try.func4, Try.ntmps4
  go_wp2_with (first
    | (go_at_call 20; (with_reducible refine (AR.out).mono ?_); rintro e w1 ⟨pa, pb, rfl, hp⟩; have P1 : Hid (CallsR w pa pb w1) := Lib.hid ⟨_, _, hp⟩; clear hp)
    | (go_at_call 19; (with_reducible refine (AW.out _).mono ?_); rintro e w13 ⟨rfl, hb13⟩))
  clear AR t1 t2 t3
  go_loopw [9] (fun i wr => ∃ k : Nat, k ≤ n2 ∧ k ≤ n3 ∧ i = .int .i64 (k : Int) ∧ Hid (CallsR w pa pb wr)) (fun i _ => n2 - (intOf i).toNat)
  case atStart => exact ⟨0, Nat.zero_le _, Nat.zero_le _, rfl, P1⟩
  case round =>
    obtain ⟨k, hk2, hk3, rfl, hp⟩ := hrel
    clear P1
    obtain ⟨cs, tr, hpr⟩ := hp.out
    have PH := Lib.hid hpr
    clear hpr hp
    have hb20 := HB.out
    by_cases hl2 : k < n2
    · have u2 : decide ((k : Int) < (n2 : Int)) = true := decide_eq_true (by omega)
      have u2' : (k : Int) < (n2 : Int) := by omega
      by_cases hl3 : k < n3
      · have u3 : decide ((k : Int) < (n3 : Int)) = true := decide_eq_true (by omega)
        have u3' : (k : Int) < (n3 : Int) := by omega
        obtain ⟨⟨m, x, y, kk⟩, hx⟩ : ∃ x, l[k]? = some x := ⟨_, List.getElem?_eq_getElem (by rw [← N2.out]; exact hl2)⟩
        obtain ⟨wh, hwh⟩ : ∃ x, ws[k]? = some x := ⟨_, List.getElem?_eq_getElem (by rw [← N3.out]; exact hl3)⟩
        obtain ⟨b, o, hq2, hbl, hok, y0, y1, y2, y3⟩ := HX2.out k _ hx
        obtain ⟨b3, o3, hq3, hbl3, y4⟩ := HX3.out k _ hwh
        dsimp only at y0 y1 y2 y3
        subst hq2
        subst hq3
        have Y := Lib.hid (And.intro y0 (And.intro y1 (And.intro y2 (And.intro y3 y4))))
        have x0 := (PH.out.bel.cell (p := ⟨b, o + k * 4, none⟩) hbl).trans y0
        have x1 := (PH.out.bel.cell (p := ⟨b, o + k * 4 + 1, none⟩) hbl).trans y1
        have x2 := (PH.out.bel.cell (p := ⟨b, o + k * 4 + 2, none⟩) hbl).trans y2
        have x3 := (PH.out.bel.cell (p := ⟨b, o + k * 4 + 3, none⟩) hbl).trans y3
        have x4 := (PH.out.bel.cell (p := ⟨b3, o3 + k, none⟩) hbl3).trans y4
        have DO := Lib.hid (show Calls Try.prog 21 #[.pointer (some ⟨pa, 0, none⟩), .pointer (some ⟨pb, 0, none⟩), .int .u8 (wh : Int), .agg #[.int .u64 (m : Int), .int .i64 x, .int .i64 y, .int .i64 kk]] wr.drew (DoPost w pa pb cs) from do_any (pr_drew PH.out) wh ⟨m, x, y, kk⟩ hok)
        clear hx hwh y0 y1 y2 y3 y4 hok
        go_wp2
        go_region_held3 (fun w' => w'.cell? ⟨b, o + k * 4, none⟩ = some (.int .u64 (m : Int)) ∧ w'.cell? ⟨b, o + k * 4 + 1, none⟩ = some (.int .i64 x) ∧ w'.cell? ⟨b, o + k * 4 + 2, none⟩ = some (.int .i64 y) ∧ w'.cell? ⟨b, o + k * 4 + 3, none⟩ = some (.int .i64 kk) ∧ w'.cell? ⟨b3, o3 + k, none⟩ = some (.int .u8 (wh : Int)))
          (first | exact ⟨x0, x1, x2, x3, x4⟩ | exact ⟨z0, z1, z2, z3, z4⟩)
          (first
            | (go_at_call 21; (with_reducible refine (DO.out).mono ?_); rintro e w3 ⟨E, rfl, cs', tr', h3, _⟩; have P3 := Lib.hid h3; have z0 := (P3.out.bel.cell (p := ⟨b, o + k * 4, none⟩) hbl).trans Y.out.1; have z1 := (P3.out.bel.cell (p := ⟨b, o + k * 4 + 1, none⟩) hbl).trans Y.out.2.1; have z2 := (P3.out.bel.cell (p := ⟨b, o + k * 4 + 2, none⟩) hbl).trans Y.out.2.2.1; have z3 := (P3.out.bel.cell (p := ⟨b, o + k * 4 + 3, none⟩) hbl).trans Y.out.2.2.2.1; have z4 := (P3.out.bel.cell (p := ⟨b3, o3 + k, none⟩) hbl3).trans Y.out.2.2.2.2; clear h3))
        all_goals
          go_wp2_with (first
            | (go_at_call 22; (with_reducible refine (same_any P3.out).mono ?_); rintro e w4 ⟨rfl, hb4⟩; have P4 := Lib.hid (P3.out.below hb4); clear hb4))
          go_roundw
          case rel => exact ⟨k + 1, by omega, by omega, by go_num, Lib.hid ⟨_, _, P4.out⟩⟩
          case measure => simp [intOf]; omega
      · obtain rfl : k = n3 := by omega
        have u3 : decide ((k : Int) < (k : Int)) = false := decide_eq_false (by omega)
        go_wp2_with (first
          | (go_at_call 21; (with_reducible refine (DN.out _).mono ?_); rintro e w5 ⟨rfl, hb5⟩; have P5 := Lib.hid (PH.out.below hb5); clear hb5)
          | (go_at_call 19; (with_reducible refine (AW.out _).mono ?_); rintro e w13 ⟨rfl, hb13⟩))
        go_ret
        exact ⟨rfl, P5.out.bel.trans (hb13.mono P5.out.bel.size)⟩
    · obtain rfl : k = n2 := by omega
      have u2 : decide ((k : Int) < (k : Int)) = false := decide_eq_false (by omega)
      go_wp2_with (first
        | (go_at_call 21; (with_reducible refine (DN.out _).mono ?_); rintro e w5 ⟨rfl, hb5⟩; have P5 := Lib.hid (PH.out.below hb5); clear hb5)
        | (go_at_call 19; (with_reducible refine (AW.out _).mono ?_); rintro e w13 ⟨rfl, hb13⟩))
      go_ret
      exact ⟨rfl, P5.out.bel.trans (hb13.mono P5.out.bel.size)⟩
end Go.Proofs.Ytjckkohmgalabaa
