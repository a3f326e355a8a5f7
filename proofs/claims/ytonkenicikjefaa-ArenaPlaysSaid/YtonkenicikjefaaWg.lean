/- ArenaPlays. -/
import Derived.Test.YtonkenicikjefaaWf
namespace Go.Proofs.Ytonkenicikjefaa
open Go.RowKit
theorem pnew (n : Nat) (w : World) (h1 : 1 ≤ n) (h2 : n ≤ 65536) : Calls Try.prog 12 #[.int .i64 (n : Int)] w fun e w' => ∃ p F, e = .returned (.tuple #[.pointer (some ⟨p, 0, none⟩), .int .i64 0]) ∧ Ar w' F p (List.replicate n 0) [] [] ∧ Below w.heap.size w w' ∧ ∀ k, F k → w.heap.size ≤ k := new_any n w h1 h2
theorem pr_new {w w1 w2 : World} {Fa Fb : Nat → Prop} {pa pb n : Nat} (ha : Ar w1 Fa pa (List.replicate n 0) [] []) (hb1 : Below w.heap.size w w1) (h1 : ∀ k, Fa k → w.heap.size ≤ k) (hb : Rb w2 Fb pb (List.replicate n 0) [] []) (hb2 : Below w1.heap.size w1 w2) (h2 : ∀ k, Fb k → w1.heap.size ≤ k) :
    Pr w w2 no pa pb (List.replicate n 0) [] [] (List.replicate n 0) [] [] := by
  have la : ∀ k, Fa k → k < w1.heap.size := by obtain ⟨_, _, _, _, h⟩ := ha; exact h.lt
  exact ⟨⟨Fa, Fb, fun k hk => ⟨h1 k hk, fun h => h, fun h => by have := la k hk; have := h2 k h; omega⟩, fun k hk => ⟨Nat.le_trans hb1.size (h2 k hk), fun h => h⟩, ha.below hb2, hb⟩, hb1.trans (hb2.mono hb1.size), fun k h => h.elim⟩
section
variable {w0 W : World} {X : Nat → Prop} {pa pb : Nat} {ca cb : List Nat} {ra rb : List Rg} {ta tb : List (Nat × Nat)}
theorem pa_steps (h : Pr w0 W X pa pb ca ra ta cb rb tb) : Calls Try.prog 15 #[.pointer (some ⟨pa, 0, none⟩)] W fun e w' => e = .returned (.int .i64 (ta.length : Int)) ∧ W = w' := by
  obtain ⟨F, c, pv, rv, pg, hx⟩ := h.arx
  exact steps_any hx
theorem pb_steps (h : Pr w0 W X pa pb ca ra ta cb rb tb) : Calls Try.prog 16 #[.pointer (some ⟨pb, 0, none⟩)] W fun e w' => e = .returned (.int .i64 (tb.length : Int)) ∧ W = w' := by
  obtain ⟨F, c, rv, ev, hx⟩ := h.rbx
  exact rsteps_any hx
theorem pa_events (h : Pr w0 W X pa pb ca ra ta cb rb tb) : Calls Try.prog 18 #[.pointer (some ⟨pa, 0, none⟩)] W (EvPost W ta) := by
  obtain ⟨F, c, pv, rv, pg, hx⟩ := h.arx
  exact events_any hx
theorem pb_events (h : Pr w0 W X pa pb ca ra ta cb rb tb) : Calls Try.prog 19 #[.pointer (some ⟨pb, 0, none⟩)] W (EvPost W tb) := by
  obtain ⟨F, c, rv, ev, hx⟩ := h.rbx
  exact revents_any hx
theorem pa_regions (h : Pr w0 W X pa pb ca ra ta cb rb tb) : Calls Try.prog 21 #[.pointer (some ⟨pa, 0, none⟩)] W (RsPost W ra) := by
  obtain ⟨F, c, pv, rv, pg, hx⟩ := h.arx
  exact regions_any hx
theorem pb_regions (h : Pr w0 W X pa pb ca ra ta cb rb tb) : Calls Try.prog 22 #[.pointer (some ⟨pb, 0, none⟩)] W (RsPost W rb) := by
  obtain ⟨F, c, rv, ev, hx⟩ := h.rbx
  exact rregions_any hx
def CeP (W : World) (cs : List Nat) (e : Ending) (w' : World) : Prop := ∃ v, e = .returned v ∧ URow w' v cs ∧ Below W.heap.size W w'
theorem pa_cells (h : Pr w0 W X pa pb ca ra ta cb rb tb) : Calls Try.prog 24 #[.pointer (some ⟨pa, 0, none⟩)] W (CeP W ca) := by
  obtain ⟨F, c, pv, rv, pg, hx⟩ := h.arx
  refine (cells_any hx).mono ?_
  rintro e w' ⟨g, c, rfl, _, ho, hb⟩
  exact ⟨_, rfl, ho.row, hb⟩
theorem pb_cells (h : Pr w0 W X pa pb ca ra ta cb rb tb) : Calls Try.prog 25 #[.pointer (some ⟨pb, 0, none⟩)] W (CeP W cb) := by
  obtain ⟨F, c, rv, ev, hx⟩ := h.rbx
  refine (rcells_any hx).mono ?_
  rintro e w' ⟨g, c, rfl, ho, hb⟩
  exact ⟨_, rfl, ho, hb⟩
theorem same_rgs {a b : Value} {xs : List Rg} {w : World} (ha : RS w a xs) (hb : RS w b xs) (hl : xs.length ≤ 100000000) : Calls Try.prog 20 #[a, b] w fun e w' => e = .returned (.bool true) ∧ Below w.heap.size w w' := by
  refine (same_rg a b xs xs w ha hb hl).mono ?_
  rintro e w' ⟨rfl, d, rfl⟩
  exact ⟨by rw [eqB_true rfl], below_drewN (Below.refl _ _) d⟩
end
def PlaysR (w : World) (pa pb n k : Nat) (wr : World) : Prop := ∃ (cs : List Nat) (rs : List Rg) (tr : List (Nat × Nat)), Pr w wr no pa pb cs rs tr cs rs tr ∧ cs.length = n ∧ tr.length ≤ k
set_option maxRecDepth 100000 in
set_option maxHeartbeats 8000000 in
theorem plays_any (v : Value) (a : Int) (l : List Cl) (w : World) (hl : CS w v l) : Calls Try.prog 3 #[.int .i64 a, v] w fun e w' => e = .returned (.bool true) ∧ Below w.heap.size w w' := by
  have AW := Lib.hid awake_any
  have FA := Lib.hid (far_any v l w hl)
  obtain ⟨q, c, rfl, hx⟩ := hl
  obtain ⟨m, hm⟩ : ∃ m, m = l.length := ⟨_, rfl⟩
  rw [← hm] at FA ⊢
  have HX := Lib.hid hx
  have HM := Lib.hid hm
  clear hx hm
  by_cases hmid : 300 < a ∧ a ≤ 65536
  · have t1 : decide ((300 : Int) < a) = true := decide_eq_true hmid.1
    have t2 : decide (a ≤ (65536 : Int)) = true := decide_eq_true hmid.2
    clear hmid
    go_enter Try.func3, Try.ntmps3
    go_wp2_with (first
      | (go_at_call 10; (with_reducible refine (FA.out).mono ?_); rintro e w' ⟨b, rfl, rfl, hfar⟩; cases b)
      | (go_at_call 11; (with_reducible refine (AW.out _).mono ?_); rintro e w13 ⟨rfl, hb13⟩))
    all_goals
      go_ret
      exact ⟨rfl, hb13⟩
  by_cases hout : a < 1 ∨ 65536 < a
  · have NA := Lib.hid (new_bad a w hout)
    have NB := Lib.hid (rnew_bad a w hout)
    by_cases h300 : 300 < a
    · have t1 : decide ((300 : Int) < a) = true := decide_eq_true h300
      have t2 : decide (a ≤ (65536 : Int)) = false := decide_eq_false (by omega)
      clear hmid hout h300
      go_enter Try.func3, Try.ntmps3
      go_wp2_with (first
        | (go_at_call 10; (with_reducible refine (FA.out).mono ?_); rintro e w' ⟨b, rfl, rfl, hfar⟩; cases b)
        | (go_at_call 12; (with_reducible refine (NA.out).mono ?_); rintro e w' ⟨rfl, rfl⟩)
        | (go_at_call 13; (with_reducible refine (NB.out).mono ?_); rintro e w' ⟨rfl, rfl⟩)
        | (go_at_call 11; (with_reducible refine (AW.out _).mono ?_); rintro e w13 ⟨rfl, hb13⟩))
      all_goals
        go_ret
        exact ⟨rfl, hb13⟩
    · have t1 : decide ((300 : Int) < a) = false := decide_eq_false h300
      clear hmid hout h300
      go_enter Try.func3, Try.ntmps3
      go_wp2_with (first
        | (go_at_call 10; (with_reducible refine (FA.out).mono ?_); rintro e w' ⟨b, rfl, rfl, hfar⟩; cases b)
        | (go_at_call 12; (with_reducible refine (NA.out).mono ?_); rintro e w' ⟨rfl, rfl⟩)
        | (go_at_call 13; (with_reducible refine (NB.out).mono ?_); rintro e w' ⟨rfl, rfl⟩)
        | (go_at_call 11; (with_reducible refine (AW.out _).mono ?_); rintro e w13 ⟨rfl, hb13⟩))
      all_goals
        go_ret
        exact ⟨rfl, hb13⟩
  obtain ⟨n, rfl⟩ : ∃ n : Nat, a = (n : Int) := ⟨a.toNat, by omega⟩
  have hn1 : 1 ≤ n := by omega
  have hn2 : n ≤ 300 := by omega
  have t1 : decide ((300 : Int) < (n : Int)) = false := decide_eq_false (by omega)
  have NA := Lib.hid (pnew n w hn1 (by omega))
  have NB := Lib.hid (fun w => rnew_any n w hn1 (by omega))
  unfold RNewPost at NB
  clear hmid hout
  go_enter Try.func3, Try.ntmps3
  go_wp2_with (first
    | (go_at_call 10; (with_reducible refine (FA.out).mono ?_); rintro e w' ⟨b, rfl, rfl, hfar⟩; have HF := Lib.hid hfar; clear hfar; cases b)
    | (go_at_call 11; (with_reducible refine (AW.out _).mono ?_); rintro e w13 ⟨rfl, hb13⟩)
    | (go_at_call 12; (with_reducible refine (NA.out).mono ?_); rintro e w1 ⟨pa, Fa, rfl, ha, hb1, hFa⟩; have A1 := Lib.hid ha; have A2 := Lib.hid hb1; have A3 := Lib.hid hFa; clear ha hb1 hFa)
    | (go_at_call 13; (with_reducible refine (NB.out _).mono ?_); rintro e w2 ⟨pb, Fb, rfl, hb, hb2, hFb⟩; have P2 := Lib.hid (pr_new A1.out A2.out A3.out hb hb2 hFb); clear hb hb2 hFb A1 A2 A3))
  rotate_left
  · go_ret
    exact ⟨rfl, hb13⟩
  obtain ⟨hlen, hnam⟩ := HF.out (by trivial)
  rw [← HM.out] at hlen
  have HNM := Lib.hid hnam
  have HO : Hid (PlaysR w pa pb n 0 w2) := Lib.hid ⟨_, _, _, P2.out, List.length_replicate .., Nat.le_refl _⟩
  clear P2 HF NA NB FA hnam t1
  go_loopw [9] (fun i wr => ∃ k : Nat, k ≤ m ∧ i = .int .i64 (k : Int) ∧ PlaysR w pa pb n k wr) (fun i _ => m - (intOf i).toNat)
  case atStart => exact ⟨0, Nat.zero_le _, rfl, HO.out⟩
  case round =>
    obtain ⟨k, hk, rfl, cs, rs, tr, hp, hcl, htl⟩ := hrel
    clear HO
    have PH := Lib.hid hp
    have CH := Lib.hid hcl
    clear hp hcl
    by_cases hlt : k < m
    · have t1 : decide ((k : Int) < (m : Int)) = true := decide_eq_true (by omega)
      have t1' : (k : Int) < (m : Int) := by omega
      obtain ⟨⟨wh, ps, nm, vl, sn⟩, hx⟩ : ∃ x, l[k]? = some x := ⟨_, List.getElem?_eq_getElem (by rw [← HM.out]; exact hlt)⟩
      have hsn := HNM.out _ (List.mem_of_getElem? hx)
      obtain ⟨b, o, hq, hbl, hok, y0, y1, y2, y3, y4⟩ := HX.out k _ hx
      dsimp only at y0 y1 y2 y3 y4
      subst hq
      have x0 := (PH.out.bel.cell (p := ⟨b, o + k * 5, none⟩) hbl).trans y0
      have x1 := (PH.out.bel.cell (p := ⟨b, o + k * 5 + 1, none⟩) hbl).trans y1
      have x2 := (PH.out.bel.cell (p := ⟨b, o + k * 5 + 2, none⟩) hbl).trans y2
      have x3 := (PH.out.bel.cell (p := ⟨b, o + k * 5 + 3, none⟩) hbl).trans y3
      have x4 := (PH.out.bel.cell (p := ⟨b, o + k * 5 + 4, none⟩) hbl).trans y4
      have DO := Lib.hid (show Calls Try.prog 14 #[.pointer (some ⟨pa, 0, none⟩), .pointer (some ⟨pb, 0, none⟩), .agg #[.int .u8 (wh : Int), .int .i64 ps, .int .i64 nm, .int .u64 (vl : Int), .string sn]] wr (DoesPost w pa pb cs tr) from does_any PH.out ⟨wh, ps, nm, vl, sn⟩ hok hsn (by omega))
      clear hx y0 y1 y2 y3 y4 hok hsn
      go_wp2_with (first
        | (go_at_call 14; (with_reducible refine (DO.out).mono ?_); rintro e w3 ⟨rfl, cs', rs', tr', h3, hc3, ht3⟩; have P3 := Lib.hid h3; have C3 := Lib.hid hc3; have T3 := Lib.hid ht3; clear h3 hc3 ht3)
        | (go_at_call 15; (with_reducible refine (pa_steps P3.out).mono ?_); rintro e w' ⟨rfl, rfl⟩)
        | (go_at_call 16; (with_reducible refine (pb_steps P3.out).mono ?_); rintro e w' ⟨rfl, rfl⟩))
      go_roundw
      case rel => exact ⟨k + 1, by omega, by go_num, cs', rs', tr', P3.out, C3.out.trans CH.out, by have := T3.out; omega⟩
      case measure => simp [intOf]; omega
    · obtain rfl : k = m := by omega
      have t1 : decide ((k : Int) < (k : Int)) = false := decide_eq_false (by omega)
      have hrl := PH.out.ok.2.2.2
      have hcl : cs.length ≤ 1000000 := by rw [CH.out]; omega
      go_wp2_with (first
        | (go_at_call 18; (with_reducible refine (pa_events PH.out).mono ?_); rintro e w3 ⟨v3, rfl, he, hb3⟩; have P3 := Lib.hid (PH.out.below hb3); have E3 := Lib.hid he; clear he hb3)
        | (go_at_call 19; (with_reducible refine (pb_events P3.out).mono ?_); rintro e w4 ⟨v4, rfl, he, hb4⟩; have P4 := Lib.hid (P3.out.below hb4); have E4 := Lib.hid he; have F4 := Lib.hid (E3.out.below hb4); clear he hb4)
        | (go_at_call 17; (with_reducible refine (same_evs F4.out E4.out (by omega)).mono ?_); rintro e w5 ⟨rfl, hb5⟩; have P5 := Lib.hid (P4.out.below hb5); clear hb5)
        | (go_at_call 21; (with_reducible refine (pa_regions P5.out).mono ?_); rintro e w6 ⟨v6, rfl, he, hb6⟩; have P6 := Lib.hid (P5.out.below hb6); have E6 := Lib.hid he; clear he hb6)
        | (go_at_call 22; (with_reducible refine (pb_regions P6.out).mono ?_); rintro e w7 ⟨v7, rfl, he, hb7⟩; have P7 := Lib.hid (P6.out.below hb7); have E7 := Lib.hid he; have F7 := Lib.hid (E6.out.below hb7); clear he hb7)
        | (go_at_call 20; (with_reducible refine (same_rgs F7.out E7.out (by omega)).mono ?_); rintro e w8 ⟨rfl, hb8⟩; have P8 := Lib.hid (P7.out.below hb8); clear hb8)
        | (go_at_call 24; (with_reducible refine (pa_cells P8.out).mono ?_); rintro e w9 ⟨v9, rfl, he, hb9⟩; have P9 := Lib.hid (P8.out.below hb9); have E9 := Lib.hid he; clear he hb9)
        | (go_at_call 25; (with_reducible refine (pb_cells P9.out).mono ?_); rintro e w10 ⟨v10, rfl, he, hb10⟩; have P10 := Lib.hid (P9.out.below hb10); have E10 := Lib.hid he; have F10 := Lib.hid (E9.out.below hb10); clear he hb10)
        | (go_at_call 23; (with_reducible refine (same_self F10.out E10.out hcl).mono ?_); rintro e w11 ⟨rfl, hb11⟩; have P11 := Lib.hid (P10.out.below hb11); clear hb11)
        | (go_at_call 11; (with_reducible refine (AW.out _).mono ?_); rintro e w13 ⟨rfl, hb13⟩))
      go_ret
      exact ⟨rfl, P11.out.bel.trans (hb13.mono P11.out.bel.size)⟩
end Go.Proofs.Ytonkenicikjefaa
