/- Parse at every string; TraceBack. -/
import Derived.Test.YtihhgnjkmhdpmaaGreatDoorZf
import Derived.Test.YtihhgnjkmhdpmaaGreatDoorS
namespace Go.Proofs.YtihhgnjkmhdpmaaGreatDoor
open Go.RowKit W
theorem parse_any (s : ByteArray) (w : World) (hw : LW w) (hs : s.size ≤ 4000000000) : Calls Tryz.prog 10 #[.string s] w (PsPost w s) := by
  by_cases h0 : linE s = 0
  · exact parse_zero s w hw hs h0
  · have LN := Lib.hid (lines_any s w hw hs)
    unfold LnPost at LN
    obtain ⟨E, hE⟩ : ∃ E, E = linE s := ⟨_, rfl⟩
    rw [← hE] at LN
    have P2 := Lib.hid (show (([] : List Run), 0, E) = parseP s by unfold parseP; rw [if_neg h0, hE])
    have t1 : (E != 0) = true := by rw [bne_iff_ne, hE]; exact h0
    clear h0 hw hs hE
    go_enter Tryz.func10, Tryz.ntmps10
    go_wp2
    go_step3
    go_wp2_with (first
      | (go_at_call 27; (with_reducible refine (LN.out).mono ?_); rintro e w1 ⟨v1, rfl, _, hb1⟩; have HB1 := Lib.hid hb1; clear hb1))
    go_ret3
    exact ⟨_, by rw [← P2.out]; rfl, by rw [← P2.out]; exact TR.nil _, HB1.out⟩
theorem lw_p {w : World} (h : LW w) : P10 w := ⟨h.p10, h.gs.1⟩
theorem far_tr {W : World} {v : Value} {l : List Ev} (h : TR W v l) : Calls Tryz.prog 6 #[v] W fun e w' => e = .returned (.bool (farB l.length)) ∧ W = w' := by
  obtain ⟨_, p, c, rfl, _⟩ := h
  exact far_any p _ c W
theorem print_size {l : List Ev} (h : printE l = 0) : (printT l).length ≤ 200000 := by
  obtain ⟨h1, h2, h3⟩ := print_ok h
  obtain ⟨_, _, c3, _⟩ := check_ok h1
  have := text_len (runs_good c3)
  rw [h3]; omega
set_option maxHeartbeats 4000000 in
set_option maxRecDepth 100000 in
theorem tback_any (va : Value) (a : List Ev) (s : ByteArray) (w : World) (ha : TR w va a) (hw : LW w) : Calls Tryz.prog 4 #[va, .string s] w (AwPost w) := by
  have hb := Below.refl w.heap.size w
  have HA := Lib.hid (fun W (h : Below w.heap.size w W) => ha.below h)
  have HP := Lib.hid (fun W (h : Below w.heap.size w W) => lw_p (hw.below h))
  have AW := Lib.hid awake_any
  have FA := Lib.hid (far_tr ha)
  by_cases fa : farB a.length = true
  · rw [fa] at FA
    clear ha fa hw
    go_enter Tryz.func4, Tryz.ntmps4
    go_wp2_with (first
      | (go_at_call 6; (with_reducible refine FA.out.mono ?_); rintro e w' ⟨rfl, rfl⟩)
      | (go_at_call 7; (with_reducible refine (AW.out _ (HP.out _ hb)).mono ?_); rintro e w2 ⟨rfl, hb2⟩))
    go_ret
    exact ⟨rfl, hb2⟩
  have fa : farB a.length = false := by simpa using fa
  have la := farB_false fa
  rw [fa] at FA
  by_cases hs : 600 < s.size
  · have t1 : decide ((600 : Int) < (s.size : Int)) = true := decide_eq_true (by omega)
    clear ha fa hw hs la
    go_enter Tryz.func4, Tryz.ntmps4
    go_wp2_with (first
      | (go_at_call 6; (with_reducible refine FA.out.mono ?_); rintro e w' ⟨rfl, rfl⟩)
      | (go_at_call 7; (with_reducible refine (AW.out _ (HP.out _ hb)).mono ?_); rintro e w2 ⟨rfl, hb2⟩))
    go_ret
    exact ⟨rfl, hb2⟩
  have t1 : decide ((600 : Int) < (s.size : Int)) = false := decide_eq_false (by omega)
  have HW := Lib.hid (fun W (h : Below w.heap.size w W) => hw.below h)
  have PR1 := Lib.hid (fun W (h : Below w.heap.size w W) => print_any va a W (ha.below h) (by omega) (HP.out _ h))
  unfold PrPost at PR1
  by_cases e1 : printE a = 0
  · have hsz := print_size e1
    have hpp := parse_print e1
    obtain ⟨s1, hs1⟩ : ∃ s, s = (⟨(printT a).toArray⟩ : ByteArray) := ⟨_, rfl⟩
    have hs2 : s1.size ≤ 4000000000 := by rw [hs1, size_mk]; omega
    rw [← hs1] at hpp
    rw [e1, ← hs1] at PR1
    have PA1 := Lib.hid (fun W (h : Below w.heap.size w W) => parse_any s1 W (HW.out _ h) hs2)
    unfold PsPost at PA1
    rw [hpp] at PA1
    dsimp only at PA1
    rw [runsL_steps] at PA1
    have SE := Lib.hid (fun W va' v (h1 : TR W v a) (h2 : TR W va' a) => events_any v va' a a W h1 h2 (by omega))
    rw [show decide (a = a) = true from decide_eq_true rfl] at SE
    have HS := Lib.hid hs
    clear hsz hpp hs1 hs2 e1 ha hw fa la
    by_cases e2 : (parseP s).2.2 = 0
    · obtain ⟨l2, hl2, hz2, hc2, hp2, ht2⟩ := print_parse e2
      have E2 := Lib.hid e2
      have PA2 := Lib.hid (fun W (h : Below w.heap.size w W) => parse_any s W (HW.out _ h) (by omega))
      unfold PsPost at PA2
      rw [hz2, e2, ← hl2] at PA2
      have hl3 : l2.length ≤ 100000000 := by
        have := (check_ok (l := l2) (cells := 65536) (by rw [hc2])).2.1
        omega
      have PR2 := Lib.hid (fun W v (h : Below w.heap.size w W) (hv : TR W v l2) => print_any v l2 W hv hl3 (HP.out _ h))
      unfold PrPost at PR2
      rw [hp2, ht2, show (⟨s.data.toList.toArray⟩ : ByteArray) = s from mk_toList s] at PR2
      have CH2 := Lib.hid (fun W v (hv : TR W v l2) => check_any v l2 65536 W hv hl3)
      unfold ChPost at CH2
      rw [hc2] at CH2
      clear e2 hl2 hz2 hc2 hp2 ht2 hl3
      go_enter Tryz.func4, Tryz.ntmps4
      go_wp2_with (first
        | (go_at_call 6; (with_reducible refine FA.out.mono ?_); rintro e w' ⟨rfl, rfl⟩)
        | (go_at_call 8; (with_reducible refine (PR1.out _ hb).mono ?_); rintro e w1 ⟨rfl, hb2⟩; replace hb := hb.trans (hb2.mono hb.size); clear hb2) | (go_at_call 10; (with_reducible refine (PA1.out _ hb).mono ?_); rintro e w2 ⟨v2, rfl, hv2, hb2⟩; replace hb := hb.trans (hb2.mono hb.size); have V2 := Lib.hid hv2; clear hb2 hv2) | (go_at_call 12; (with_reducible refine (SE.out _ _ _ V2.out (HA.out _ hb)).mono ?_); rintro e w3 ⟨rfl, d, rfl⟩; replace hb := hb.trans ((below_drewN _ d).mono hb.size))
        | (go_at_call 10; (with_reducible refine (PA2.out _ hb).mono ?_); rintro e w5 ⟨v5, rfl, hv5, hb2⟩; replace hb := hb.trans (hb2.mono hb.size); have V5 := Lib.hid hv5; clear hb2 hv5)
        | (go_at_call 8; (with_reducible refine (PR2.out _ _ hb V5.out).mono ?_); rintro e w6 ⟨rfl, hb2⟩; replace hb := hb.trans (hb2.mono hb.size); have V6 := Lib.hid (V5.out.below hb2); clear hb2)
        | (go_at_call 13; (with_reducible refine (CH2.out _ _ V6.out).mono ?_); rintro e w7 ⟨rfl, hb2⟩; replace hb := hb.trans (hb2.mono hb.size); clear hb2)
        | (go_at_call 7; (with_reducible refine (AW.out _ (HP.out _ hb)).mono ?_); rintro e w8 ⟨rfl, hb2⟩; replace hb := hb.trans (hb2.mono hb.size); clear hb2))
      go_ret
      exact ⟨rfl, hb⟩
    · have hz := parse_err e2
      obtain ⟨E2, hE2⟩ : ∃ E, E = (parseP s).2.2 := ⟨_, rfl⟩
      have PA2 := Lib.hid (fun W (h : Below w.heap.size w W) => parse_any s W (HW.out _ h) (by omega))
      unfold PsPost at PA2
      obtain ⟨L2, hL2⟩ : ∃ E, E = (parseP s).2.1 := ⟨_, rfl⟩
      rw [hz, ← hE2, ← hL2] at PA2
      rw [← hE2] at e2
      have t2 : (E2 != 0) = true := by rw [bne_iff_ne]; exact e2
      clear e2 hz hE2 hL2
      go_enter Tryz.func4, Tryz.ntmps4
      go_wp2_with (first
        | (go_at_call 6; (with_reducible refine FA.out.mono ?_); rintro e w' ⟨rfl, rfl⟩)
        | (go_at_call 8; (with_reducible refine (PR1.out _ hb).mono ?_); rintro e w1 ⟨rfl, hb2⟩; replace hb := hb.trans (hb2.mono hb.size); clear hb2) | (go_at_call 10; (with_reducible refine (PA1.out _ hb).mono ?_); rintro e w2 ⟨v2, rfl, hv2, hb2⟩; replace hb := hb.trans (hb2.mono hb.size); have V2 := Lib.hid hv2; clear hb2 hv2) | (go_at_call 12; (with_reducible refine (SE.out _ _ _ V2.out (HA.out _ hb)).mono ?_); rintro e w3 ⟨rfl, d, rfl⟩; replace hb := hb.trans ((below_drewN _ d).mono hb.size))
        | (go_at_call 10; (with_reducible refine (PA2.out _ hb).mono ?_); rintro e w5 ⟨v5, rfl, hv5, hb2⟩; replace hb := hb.trans (hb2.mono hb.size); clear hb2; obtain ⟨_, p5, c5, rfl, _⟩ := hv5)
        | (go_at_call 7; (with_reducible refine (AW.out _ (HP.out _ hb)).mono ?_); rintro e w8 ⟨rfl, hb2⟩; replace hb := hb.trans (hb2.mono hb.size); clear hb2))
      go_ret
      exact ⟨rfl, hb⟩
  · obtain ⟨E1, hE1⟩ : ∃ E, E = printE a := ⟨_, rfl⟩
    rw [← hE1] at PR1 e1
    have t3 : (E1 == 0) = false := by rw [beq_eq_false_iff_ne]; exact e1
    clear hE1 e1 ha hw fa la
    by_cases e2 : (parseP s).2.2 = 0
    · obtain ⟨l2, hl2, hz2, hc2, hp2, ht2⟩ := print_parse e2
      have E2 := Lib.hid e2
      have PA2 := Lib.hid (fun W (h : Below w.heap.size w W) => parse_any s W (HW.out _ h) (by omega))
      unfold PsPost at PA2
      rw [hz2, e2, ← hl2] at PA2
      have hl3 : l2.length ≤ 100000000 := by
        have := (check_ok (l := l2) (cells := 65536) (by rw [hc2])).2.1
        omega
      have PR2 := Lib.hid (fun W v (h : Below w.heap.size w W) (hv : TR W v l2) => print_any v l2 W hv hl3 (HP.out _ h))
      unfold PrPost at PR2
      rw [hp2, ht2, show (⟨s.data.toList.toArray⟩ : ByteArray) = s from mk_toList s] at PR2
      have CH2 := Lib.hid (fun W v (hv : TR W v l2) => check_any v l2 65536 W hv hl3)
      unfold ChPost at CH2
      rw [hc2] at CH2
      clear e2 hl2 hz2 hc2 hp2 ht2 hl3
      go_enter Tryz.func4, Tryz.ntmps4
      go_wp2_with (first
        | (go_at_call 6; (with_reducible refine FA.out.mono ?_); rintro e w' ⟨rfl, rfl⟩)
        | (go_at_call 8; (with_reducible refine (PR1.out _ hb).mono ?_); rintro e w1 ⟨rfl, hb2⟩; replace hb := hb.trans (hb2.mono hb.size); clear hb2)
        | (go_at_call 10; (with_reducible refine (PA2.out _ hb).mono ?_); rintro e w5 ⟨v5, rfl, hv5, hb2⟩; replace hb := hb.trans (hb2.mono hb.size); have V5 := Lib.hid hv5; clear hb2 hv5)
        | (go_at_call 8; (with_reducible refine (PR2.out _ _ hb V5.out).mono ?_); rintro e w6 ⟨rfl, hb2⟩; replace hb := hb.trans (hb2.mono hb.size); have V6 := Lib.hid (V5.out.below hb2); clear hb2)
        | (go_at_call 13; (with_reducible refine (CH2.out _ _ V6.out).mono ?_); rintro e w7 ⟨rfl, hb2⟩; replace hb := hb.trans (hb2.mono hb.size); clear hb2)
        | (go_at_call 7; (with_reducible refine (AW.out _ (HP.out _ hb)).mono ?_); rintro e w8 ⟨rfl, hb2⟩; replace hb := hb.trans (hb2.mono hb.size); clear hb2))
      go_ret
      exact ⟨rfl, hb⟩
    · have hz := parse_err e2
      obtain ⟨E2, hE2⟩ : ∃ E, E = (parseP s).2.2 := ⟨_, rfl⟩
      have PA2 := Lib.hid (fun W (h : Below w.heap.size w W) => parse_any s W (HW.out _ h) (by omega))
      unfold PsPost at PA2
      obtain ⟨L2, hL2⟩ : ∃ E, E = (parseP s).2.1 := ⟨_, rfl⟩
      rw [hz, ← hE2, ← hL2] at PA2
      rw [← hE2] at e2
      have t2 : (E2 != 0) = true := by rw [bne_iff_ne]; exact e2
      clear e2 hz hE2 hL2
      go_enter Tryz.func4, Tryz.ntmps4
      go_wp2_with (first
        | (go_at_call 6; (with_reducible refine FA.out.mono ?_); rintro e w' ⟨rfl, rfl⟩)
        | (go_at_call 8; (with_reducible refine (PR1.out _ hb).mono ?_); rintro e w1 ⟨rfl, hb2⟩; replace hb := hb.trans (hb2.mono hb.size); clear hb2)
        | (go_at_call 10; (with_reducible refine (PA2.out _ hb).mono ?_); rintro e w5 ⟨v5, rfl, hv5, hb2⟩; replace hb := hb.trans (hb2.mono hb.size); clear hb2; obtain ⟨_, p5, c5, rfl, _⟩ := hv5)
        | (go_at_call 7; (with_reducible refine (AW.out _ (HP.out _ hb)).mono ?_); rintro e w8 ⟨rfl, hb2⟩; replace hb := hb.trans (hb2.mono hb.size); clear hb2))
      go_ret
      exact ⟨rfl, hb⟩
end Go.Proofs.YtihhgnjkmhdpmaaGreatDoor
