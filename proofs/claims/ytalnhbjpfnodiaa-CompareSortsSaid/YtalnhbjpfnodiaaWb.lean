/- The reference's New, none, Steps, Has, Room, step, Load, Store, Forget. -/
import Derived.Test.YtalnhbjpfnodiaaWa
namespace Go.Proofs.Ytalnhbjpfnodiaa
open Go.RowKit
def RNewPost (w : World) (n : Nat) (e : Ending) (w' : World) : Prop :=
  ∃ p F, e = .returned (.tuple #[.pointer (some ⟨p, 0, none⟩), .int .i64 0]) ∧ Rb w' F p (List.replicate n 0) [] [] ∧ Below w.heap.size w w' ∧ ∀ k, F k → w.heap.size ≤ k
theorem rnew_any (n : Nat) (w : World) (h1 : 1 ≤ n) (h2 : n ≤ 65536) : Calls Try.prog 42 #[.int .i64 (n : Int)] w (RNewPost w n) := by
  have hmk := run_make_row' (P := Try.prog) 27 22 (.int .u64 0) 8 Try.underlying27 u64_info rfl .i64 .i64 n (by omega) (by omega)
  have t1 : decide ((n : Int) < 1) = false := decide_eq_false (by omega)
  have t2 : decide ((65536 : Int) < (n : Int)) = false := decide_eq_false (by omega)
  have HB := Lib.hid (rnew_blocks w n h1 h2)
  go_enter Try.func42, Try.ntmps42
  go_wp2
  go_ret2
  refine ⟨w.heap.size + 1, _, rfl, ⟨_, _, _, HB.out⟩, (((Below.refl _ w).alloc (Nat.le_refl _) _).alloc (by simp) _), fun k hk => by omega⟩
theorem rnew_bad (n : Int) (w : World) (h : n < 1 ∨ 65536 < n) : Calls Try.prog 42 #[.int .i64 n] w fun e w' => e = .returned (.tuple #[.pointer none, .int .i64 7]) ∧ w = w' := by
  by_cases h1 : n < 1
  · have t1 : decide (n < 1) = true := decide_eq_true h1
    go_enter Try.func42, Try.ntmps42
    go_wp2
    go_ret2
    exact ⟨rfl, rfl⟩
  · have t1 : decide (n < 1) = false := decide_eq_false h1
    have t2 : decide ((65536 : Int) < n) = true := decide_eq_true (by omega)
    go_enter Try.func42, Try.ntmps42
    go_wp2
    go_ret2
    exact ⟨rfl, rfl⟩
section
variable {w : World} {F : Nat → Prop} {p cb : Nat} {rv ev : Value} {cs : List Nat} {rs : List Rg} {tr : List (Nat × Nat)}
theorem none_ok (h : RbX w F p cb rv ev cs rs tr) : Calls Try.prog 72 #[.pointer (some ⟨p, 0, none⟩)] w fun e w' => e = .returned (.bool false) ∧ w = w' := by
  have c0 := h.c0
  have hn := h.ncs
  have t0 : ((cs.length : Int) == 0) = false := by rw [beq_eq_false_iff_ne]; omega
  clear h
  generalize cs.length = n at *
  go_enter Try.func72, Try.ntmps72
  go_wp2
  go_ret
  exact ⟨rfl, rfl⟩
theorem rhas_any (h : RbX w F p cb rv ev cs rs tr) (a b : Int) (ha : -9223372036854775808 ≤ a ∧ a ≤ 9223372036854775807) : Calls Try.prog 71 #[.pointer (some ⟨p, 0, none⟩), .int .i64 a, .int .i64 b] w fun e w' => e = .returned (.int .i64 (hasE cs.length a b)) ∧ w = w' := by
  have c0 := h.c0
  have hn := h.ncs
  have HV := Lib.hid (none_ok h)
  clear h
  generalize cs.length = n at *
  by_cases h2 : a < 0
  · have t2 : decide (a < 0) = true := decide_eq_true h2
    have H := Lib.hid (show hasE n a b = 7 from if_pos (.inr (.inl h2)))
    clear h2
    go_enter Try.func71, Try.ntmps71
    go_wp2_with (go_at_call 72; refine HV.out.mono ?_; rintro e w' ⟨rfl, rfl⟩)
    go_ret
    exact ⟨ret_int H.out.symm, rfl⟩
  have t2 : decide (a < 0) = false := decide_eq_false h2
  by_cases h1 : b < 0
  · have t1 : decide (b < 0) = true := decide_eq_true h1
    have H := Lib.hid (show hasE n a b = 7 from if_pos (.inl h1))
    clear h1 h2
    go_enter Try.func71, Try.ntmps71
    go_wp2_with (go_at_call 72; refine HV.out.mono ?_; rintro e w' ⟨rfl, rfl⟩)
    go_ret
    exact ⟨ret_int H.out.symm, rfl⟩
  have t1 : decide (b < 0) = false := decide_eq_false h1
  by_cases h3 : (n : Int) < a
  · have t3 : decide ((n : Int) < a) = true := decide_eq_true h3
    have H := Lib.hid (show hasE n a b = 7 from if_pos (.inr (.inr (.inl h3))))
    clear h1 h2 h3
    go_enter Try.func71, Try.ntmps71
    go_wp2_with (go_at_call 72; refine HV.out.mono ?_; rintro e w' ⟨rfl, rfl⟩)
    go_ret
    exact ⟨ret_int H.out.symm, rfl⟩
  have t3 : decide ((n : Int) < a) = false := decide_eq_false h3
  have b1 : -9223372036854775808 ≤ (n : Int) - a := by omega
  have b2 : (n : Int) - a ≤ 9223372036854775807 := by omega
  by_cases h4 : (n : Int) - a < b
  · have t4 : decide ((n : Int) - a < b) = true := decide_eq_true h4
    have H := Lib.hid (show hasE n a b = 7 from if_pos (.inr (.inr (.inr h4))))
    clear h1 h2 h3 h4
    go_enter Try.func71, Try.ntmps71
    go_wp2_with (go_at_call 72; refine HV.out.mono ?_; rintro e w' ⟨rfl, rfl⟩)
    go_ret
    exact ⟨ret_int H.out.symm, rfl⟩
  have t4 : decide ((n : Int) - a < b) = false := decide_eq_false h4
  have H := Lib.hid (show hasE n a b = 0 from if_neg (by omega))
  clear h1 h2 h3 h4
  go_enter Try.func71, Try.ntmps71
  go_wp2_with (go_at_call 72; refine HV.out.mono ?_; rintro e w' ⟨rfl, rfl⟩)
  go_ret
  exact ⟨ret_int H.out.symm, rfl⟩
theorem rroom_any (h : RbX w F p cb rv ev cs rs tr) (k : Int) : Calls Try.prog 69 #[.pointer (some ⟨p, 0, none⟩), .int .i64 k] w fun e w' => e = .returned (.int .i64 (roomE tr.length k)) ∧ w = w' := by
  obtain ⟨q, c, rfl⟩ := own_shape h.evs
  have c2 := h.c2
  have HV := Lib.hid (none_ok h)
  have hl := h.long
  clear h
  generalize tr.length = n at *
  by_cases h1 : k < 0
  · have t1 : decide (k < 0) = true := decide_eq_true h1
    have H := Lib.hid (show roomE n k = 7 from if_pos h1)
    clear h1
    go_enter Try.func69, Try.ntmps69
    go_wp2_with (go_at_call 72; refine HV.out.mono ?_; rintro e w' ⟨rfl, rfl⟩)
    go_ret
    exact ⟨ret_int H.out.symm, rfl⟩
  have t1 : decide (k < 0) = false := decide_eq_false h1
  by_cases h2 : 8388608 - (n : Int) < k
  · have t2 : decide (8388608 - (n : Int) < k) = true := decide_eq_true h2
    have H := Lib.hid (show roomE n k = 3 by unfold roomE; rw [if_neg h1, if_pos h2])
    clear h1 h2
    go_enter Try.func69, Try.ntmps69
    go_wp2_with (go_at_call 72; refine HV.out.mono ?_; rintro e w' ⟨rfl, rfl⟩)
    go_ret
    exact ⟨ret_int H.out.symm, rfl⟩
  have t2 : decide (8388608 - (n : Int) < k) = false := decide_eq_false h2
  have H := Lib.hid (show roomE n k = 0 by unfold roomE; rw [if_neg h1, if_neg h2])
  clear h1 h2
  go_enter Try.func69, Try.ntmps69
  go_wp2_with (go_at_call 72; refine HV.out.mono ?_; rintro e w' ⟨rfl, rfl⟩)
  go_ret
  exact ⟨ret_int H.out.symm, rfl⟩
theorem rstep_bad (h : RbX w F p cb rv ev cs rs tr) (k x : Int) (hx : stepE cs.length tr.length x ≠ 0) :
    Calls Try.prog 66 #[.pointer (some ⟨p, 0, none⟩), .int .i64 k, .int .i64 x] w fun e w' => e = .returned (.int .i64 (stepE cs.length tr.length x)) ∧ w = w' := by
  obtain ⟨q, c, rfl⟩ := own_shape h.evs
  have c0 := h.c0
  have c2 := h.c2
  have hn := h.ncs
  have HV := Lib.hid (none_ok h)
  have HC := stepE_cases (n := cs.length) h.long x
  generalize cs.length = n at *
  generalize tr.length = m at *
  clear h
  rcases HC with ⟨e, h1⟩ | ⟨a, rfl, h1, h2, e⟩ | ⟨a, rfl, h1, h2, e⟩
  · have H := Lib.hid e
    clear e hx
    by_cases h2 : x < 0
    · have t1 : decide (x < 0) = true := decide_eq_true h2
      clear h1
      go_enter Try.func66, Try.ntmps66
      go_wp2_with (go_at_call 72; refine HV.out.mono ?_; rintro e w' ⟨rfl, rfl⟩)
      go_ret
      exact ⟨ret_int H.out.symm, rfl⟩
    · have t1 : decide (x < 0) = false := decide_eq_false h2
      have t2 : decide ((n : Int) ≤ x) = true := decide_eq_true (by omega)
      clear h1
      go_enter Try.func66, Try.ntmps66
      go_wp2_with (go_at_call 72; refine HV.out.mono ?_; rintro e w' ⟨rfl, rfl⟩)
      go_ret
      exact ⟨ret_int H.out.symm, rfl⟩
  · have H := Lib.hid e
    have t1 : decide ((a : Int) < 0) = false := decide_eq_false (by omega)
    have t2 : decide ((n : Int) ≤ (a : Int)) = false := decide_eq_false (by omega)
    have t3 : decide ((8388608 : Int) ≤ (m : Int)) = true := decide_eq_true (by omega)
    clear e hx h2
    go_enter Try.func66, Try.ntmps66
    go_wp2_with (go_at_call 72; refine HV.out.mono ?_; rintro e w' ⟨rfl, rfl⟩)
    go_ret
    exact ⟨ret_int H.out.symm, rfl⟩
  · exact absurd e hx
set_option maxRecDepth 100000 in
theorem rstep_good (h : RbX w F p cb rv ev cs rs tr) (k a : Nat) (hk : k < 3) (ha : a < cs.length) (hl : tr.length < 8388608) :
    Calls Try.prog 66 #[.pointer (some ⟨p, 0, none⟩), .int .i64 (k : Int), .int .i64 (a : Int)] w fun e w' => e = .returned (.int .i64 0) ∧ RStep w F p cs rs (tr ++ [(k, a)]) w' := by
  obtain ⟨q, c, rfl⟩ := own_shape h.evs
  have c0 := h.c0
  have c2 := h.c2
  have hn := h.ncs
  have HV := Lib.hid (none_ok h)
  have H := Lib.hid h
  have HW := Lib.hid h.evs
  have t1 : decide ((a : Int) < 0) = false := decide_eq_false (by omega)
  have t2 : decide ((cs.length : Int) ≤ (a : Int)) = false := decide_eq_false (by omega)
  have t3 : decide ((8388608 : Int) ≤ (tr.length : Int)) = false := decide_eq_false (by omega)
  obtain ⟨i0, hi, hz0, hz1, hz2⟩ := info_parts ev_info
  clear h
  go_enter Try.func66, Try.ntmps66
  go_wp2_with (first
    | (go_at_call 72; refine HV.out.mono ?_; rintro e w' ⟨rfl, rfl⟩)
    | (at_builtin; refine wpList_append_own_at _ rfl _ _ 46 rfl 0 77 i0 (.agg #[.int .i32 0, .int .i32 0]) 2 8 Try.underlying46 hi hz0 hz1 hz2 rfl (by decide) (.slice q tr.length c) tr.length (tr.flatMap ecl) rfl (World.ownsRow.alloc HW.out _) ⟨w.heap.size, 0, none⟩ 1 1 (ecl (k, a)) rfl rfl (ev_new w (k, a)) (ecl_one _) (by simp only [maxLen]; omega) (by omega) (Nat.zero_le _) ?_; intro v' w6 hown' hgrow _ hat; have hfx := Lib.hid hown'; have hgx := Lib.hid hgrow; have htx := Lib.hid hat; clear hat; obtain ⟨q1, cq1, rfl⟩ := own_shape hown'; have hbx := H.out.p_grown (fun g hg' => own_type HW.out hg') (by decide) hgx.out; clear hown' hgrow; have g0 := (cell_blk hbx 2).trans rfl; have g1 := frozen_blk hbx 2; clear hbx))
  go_ret
  refine ⟨rfl, _, fun j hj => hj.imp id (fun hh => hh.1), ⟨_, _, _, H.out.addEv (k, a) hl hfx.out hgx.out htx.out⟩, ?_⟩
  exact (((Kept.refl F w).alloc _).grown hgx.out (fun j e => .inl (H.out.fev j e))).setCell (p := ⟨p, 2, none⟩) (.inl H.out.fp) _
theorem rload_bad (h : RbX w F p cb rv ev cs rs tr) (x : Int) (hx : stepE cs.length tr.length x ≠ 0) :
    Calls Try.prog 83 #[.pointer (some ⟨p, 0, none⟩), .int .i64 x] w fun e w' => e = .returned (.tuple #[.int .u64 0, .int .i64 (stepE cs.length tr.length x)]) ∧ w = w' := by
  have HS := Lib.hid (rstep_bad h 1 x hx)
  generalize stepE cs.length tr.length x = E at *
  have t1 : (E != 0) = true := by simpa using hx
  clear h hx
  go_enter Try.func83, Try.ntmps83
  go_wp2_with (go_at_call 66; refine HS.out.mono ?_; rintro e w' ⟨rfl, rfl⟩)
  go_ret2
  exact ⟨rfl, rfl⟩
theorem rstore_bad (h : RbX w F p cb rv ev cs rs tr) (x v : Int) (hx : stepE cs.length tr.length x ≠ 0) :
    Calls Try.prog 44 #[.pointer (some ⟨p, 0, none⟩), .int .i64 x, .int .u64 v] w fun e w' => e = .returned (.int .i64 (stepE cs.length tr.length x)) ∧ w = w' := by
  have HS := Lib.hid (rstep_bad h 2 x hx)
  generalize stepE cs.length tr.length x = E at *
  have t1 : (E == 0) = false := by simpa using hx
  clear h hx
  go_enter Try.func44, Try.ntmps44
  go_wp2_with (go_at_call 66; refine HS.out.mono ?_; rintro e w' ⟨rfl, rfl⟩)
  go_ret
  exact ⟨rfl, rfl⟩
theorem rload_good (h : RbX w F p cb rv ev cs rs tr) (a : Nat) (ha : a < cs.length) (hl : tr.length < 8388608) :
    Calls Try.prog 83 #[.pointer (some ⟨p, 0, none⟩), .int .i64 (a : Int)] w fun e w' => e = .returned (.tuple #[u64v (cs.getD a 0), .int .i64 0]) ∧ RStep w F p cs rs (tr ++ [(1, a)]) w' := by
  have HS := Lib.hid (rstep_good h 1 a (by decide) ha hl)
  have hn := h.ncs
  clear h
  unfold u64v
  obtain ⟨n, hnn⟩ : ∃ n, n = cs.length := ⟨_, rfl⟩
  have HN := Lib.hid hnn
  rw [← hnn] at hn ha
  clear hnn
  go_enter Try.func83, Try.ntmps83
  go_wp2_with (go_at_call 66; refine HS.out.mono ?_; rintro e w' ⟨rfl, hs⟩; have HT := Lib.hid hs; obtain ⟨F', e', ⟨cb', rv', ev', h'⟩, hk'⟩ := hs; have c0 := h'.c0; have cc := h'.cells.cell (i := a) (by rw [← HN.out]; exact ha); rw [← HN.out] at c0; unfold u64v at cc; clear h' hk' e')
  go_ret2
  exact ⟨rfl, HT.out⟩
theorem rstore_good (h : RbX w F p cb rv ev cs rs tr) (a v : Nat) (ha : a < cs.length) (hl : tr.length < 8388608) :
    Calls Try.prog 44 #[.pointer (some ⟨p, 0, none⟩), .int .i64 (a : Int), .int .u64 (v : Int)] w fun e w' => e = .returned (.int .i64 0) ∧ RStep w F p (cs.set a v) rs (tr ++ [(2, a)]) w' := by
  have HS := Lib.hid (rstep_good h 2 a (by decide) ha hl)
  have hn := h.ncs
  clear h
  obtain ⟨n, hnn⟩ : ∃ n, n = cs.length := ⟨_, rfl⟩
  have HN := Lib.hid hnn
  rw [← hnn] at hn ha
  clear hnn
  go_enter Try.func44, Try.ntmps44
  go_wp2_with (go_at_call 66; refine HS.out.mono ?_; rintro e w' ⟨rfl, hs⟩; obtain ⟨F', e', ⟨cb', rv', ev', h'⟩, hk'⟩ := hs; have c0 := h'.c0; have cc := h'.cells.cell (i := a) (by rw [← HN.out]; exact ha); have cf := h'.cells.frozen a; rw [← HN.out] at c0; unfold u64v at cc; have H1 := Lib.hid h'; have H2 := Lib.hid hk'; have H3 := Lib.hid e'; clear h' hk' e')
  go_ret
  exact ⟨rfl, F', H3.out, ⟨_, _, _, H1.out.store a v⟩, H2.out.setCell (p := ⟨cb', a, none⟩) (H3.out _ H1.out.fc) _⟩
end
end Go.Proofs.Ytalnhbjpfnodiaa
