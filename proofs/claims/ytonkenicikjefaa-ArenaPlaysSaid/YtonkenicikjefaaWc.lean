/- The reference's Region and Find. -/
import Derived.Test.YtonkenicikjefaaWb
import Derived.Test.YtonkenicikjefaaU
namespace Go.Proofs.Ytonkenicikjefaa
open Go.RowKit
def RRegPost (w : World) (F : Nat → Prop) (p : Nat) (cs : List Nat) (rs : List Rg) (tr : List (Nat × Nat)) (s : ByteArray) (k : Int) (e : Ending) (w' : World) : Prop :=
  (regE cs.length rs s k ≠ 0 ∧ e = .returned (.tuple #[.int .i64 0, .int .i64 (regE cs.length rs s k)]) ∧ Below w.heap.size w w') ∨
  (regE cs.length rs s k = 0 ∧ ∃ kk : Nat, k = (kk : Int) ∧ e = .returned (.tuple #[.int .i64 (endR rs : Int), .int .i64 0]) ∧ RStep w F p cs (rs ++ [⟨s, endR rs, kk⟩]) tr w')
theorem rreg_bad {w w' : World} {F : Nat → Prop} {p : Nat} {cs : List Nat} {rs : List Rg} {tr : List (Nat × Nat)} {s : ByteArray} {k E : Int} (h : regE cs.length rs s k = E) (h0 : E ≠ 0) (hb : Below w.heap.size w w') : RRegPost w F p cs rs tr s k (.returned (.tuple #[.int .i64 0, .int .i64 E])) w' :=
  .inl ⟨by rw [h]; exact h0, by rw [h], hb⟩
section
variable {w : World} {F : Nat → Prop} {p cb : Nat} {rv ev : Value} {cs : List Nat} {rs : List Rg} {tr : List (Nat × Nat)}
set_option maxRecDepth 100000 in
set_option maxHeartbeats 1600000 in
theorem rregion_any (h : RbX w F p cb rv ev cs rs tr) (s : ByteArray) (k : Int) (hs : s.size ≤ 100000) (hk : -9223372036854775808 ≤ k ∧ k ≤ 9223372036854775807) :
    Calls Try.prog 36 #[.pointer (some ⟨p, 0, none⟩), .string s, .int .i64 k] w (RRegPost w F p cs rs tr s k) := by
  have NM := Lib.hid (fun W => rname_any s W (by unfold maxLen; omega))
  have HV := Lib.hid (none_ok h)
  have c0 := h.c0
  have hn := h.ncs
  have hnr := h.nrs
  have HR := Lib.hid (h.regs)
  have WR := Lib.hid (h.wrs)
  obtain ⟨q, c, rfl⟩ := own_shape h.regs
  have c1 := h.c1
  have H := Lib.hid h
  obtain ⟨i0, hi, hz0, hz1, hz2⟩ := info_parts reg_info
  clear h
  by_cases h1 : nameL s.data.toList = false
  · have E := Lib.hid (show regE cs.length rs s k = 6 by unfold regE; rw [if_pos h1])
    rw [h1] at NM
    clear h1
    go_enter Try.func36, Try.ntmps36
    go_wp2_with (first | (go_at_call 43; refine HV.out.mono ?_; rintro e w' ⟨rfl, rfl⟩) | (go_at_call 53; refine (NM.out _).mono ?_; rintro e w' ⟨rfl, rfl⟩))
    go_ret2
    exact rreg_bad E.out (by decide) (Below.refl _ _)
  have h1' : nameL s.data.toList = true := by simpa using h1
  rw [h1'] at NM
  by_cases h2 : k < 1
  · have E := Lib.hid (show regE cs.length rs s k = 7 by unfold regE; rw [if_neg h1, if_pos h2])
    have t2 : decide (k < 1) = true := decide_eq_true h2
    clear h1 h1' h2
    go_enter Try.func36, Try.ntmps36
    go_wp2_with (first | (go_at_call 43; refine HV.out.mono ?_; rintro e w' ⟨rfl, rfl⟩) | (go_at_call 53; refine (NM.out _).mono ?_; rintro e w' ⟨rfl, rfl⟩))
    go_ret2
    exact rreg_bad E.out (by decide) (Below.refl _ _)
  have t2 : decide (k < 1) = false := decide_eq_false h2
  have E3 := Lib.hid (show 0 ≤ idxI rs s → regE cs.length rs s k = 8 from fun h3 => by unfold regE; rw [if_neg h1, if_neg h2, if_pos h3])
  have E4 := Lib.hid (show ¬ 0 ≤ idxI rs s → 64 ≤ rs.length → regE cs.length rs s k = 3 from fun h3 h4 => by unfold regE; rw [if_neg h1, if_neg h2, if_neg h3, if_pos h4])
  have E5 := Lib.hid (show ¬ 0 ≤ idxI rs s → ¬ 64 ≤ rs.length → (cs.length : Int) - (endR rs : Int) < k → regE cs.length rs s k = 5 from fun h3 h4 h5 => by unfold regE; rw [if_neg h1, if_neg h2, if_neg h3, if_neg h4, if_pos h5])
  have E6 := Lib.hid (show ¬ 0 ≤ idxI rs s → ¬ 64 ≤ rs.length → ¬ (cs.length : Int) - (endR rs : Int) < k → regE cs.length rs s k = 0 from fun h3 h4 h5 => by unfold regE; rw [if_neg h1, if_neg h2, if_neg h3, if_neg h4, if_neg h5])
  have HS16 := Lib.hid (name_size h1')
  obtain ⟨n, hnn⟩ : ∃ n, n = rs.length := ⟨_, rfl⟩
  have HN := Lib.hid hnn
  rw [← hnn] at c1 hnr
  obtain ⟨N, hNN⟩ : ∃ N, N = cs.length := ⟨_, rfl⟩
  have HC := Lib.hid hNN
  rw [← hNN] at c0 hn
  clear h1 h1' hnn hNN
  go_enter Try.func36, Try.ntmps36
  go_wp2_with (first | (go_at_call 43; refine HV.out.mono ?_; rintro e w' ⟨rfl, rfl⟩) | (go_at_call 53; refine (NM.out _).mono ?_; rintro e w' ⟨rfl, rfl⟩))
  clear NM HV
  go_loopw [8, 9] (fun en i wr => ∃ j : Nat, j ≤ n ∧ i = .int .i64 (j : Int) ∧ en = .int .i64 (endR (rs.take j) : Int) ∧ Hid (∀ (i : Nat) (x : Rg), i < j → rs[i]? = some x → nameEq x s = false) ∧ ∃ d, wr = w.drewN d) (fun _ i _ => n - (intOf i).toNat)
  case atStart => exact ⟨0, Nat.zero_le _, rfl, rfl, Lib.hid (fun i x h => absurd h (Nat.not_lt_zero _)), 0, rfl⟩
  case round =>
    obtain ⟨j, hj, rfl, rfl, hd, d, rfl⟩ := hrel
    by_cases hlt : j < n
    · have t3 : decide ((j : Int) < (n : Int)) = true := decide_eq_true (by omega)
      have t3' : (j : Int) < (n : Int) := by omega
      obtain ⟨r, hr⟩ : ∃ r, rs[j]? = some r := ⟨_, List.getElem?_eq_getElem (by rw [← HN.out]; exact hlt)⟩
      obtain ⟨g, hg, y0, y1, y2, hmc⟩ := own_reg HR.out hr
      subst hg
      have hrw := WR.out r (List.mem_of_getElem? hr)
      rw [← HC.out] at hrw
      have HJ := Lib.hid hr
      have e1 : IntKind.i64.wrap ((r.base : Int) + (r.size : Int)) = (r.base : Int) + (r.size : Int) := by rw [IntKind.wrap_i64]; omega
      clear hr
      by_cases hq : (r.name.toList == s.toList) = true
      · have HQ := Lib.hid (show nameEq r s = true from hq)
        have E := Lib.hid (E3.out (by rw [idxI_some HJ.out HQ.out hd.out]; omega))
        go_wp2
        go_ret2
        exact rreg_bad E.out (by decide) (below_drewN (Below.refl _ _) _)
      · have hq' : (r.name.toList == s.toList) = false := by simpa using hq
        have HQ := Lib.hid (show nameEq r s = false from hq')
        clear hq
        go_wp2
        go_quiet (fail)
        go_wp2
        go_roundw
        case rel =>
          refine ⟨j + 1, by omega, by go_num, congrArg (Value.int .i64) ?_, Lib.hid (fun i x hi hx => ?_), _, rfl⟩
          · rw [List.take_add_one, HJ.out, Option.toList_some, endR_app]; omega
          · by_cases e : i = j
            · subst e; rw [HJ.out] at hx; cases hx; exact HQ.out
            · exact hd.out i x (by omega) hx
        case measure => simp [intOf]; omega
    · obtain rfl : j = n := by omega
      have t3 : decide ((j : Int) < (j : Int)) = false := decide_eq_false (by omega)
      have hI : ¬ 0 ≤ idxI rs s := by rw [idxI_none (fun i x hx => hd.out i x (by rw [HN.out]; exact (List.getElem?_eq_some_iff.1 hx).1) hx)]; omega
      have htk : endR (rs.take j) = endR rs := by rw [HN.out, List.take_length]
      rw [htk]
      have hEl := endR_le WR.out
      rw [← HC.out] at hEl
      have HI := Lib.hid hI
      clear hI htk hd
      by_cases h4 : 64 ≤ rs.length
      · have E := Lib.hid (E4.out (by have := HI.out; omega) h4)
        have t4 : decide ((64 : Int) ≤ (j : Int)) = true := decide_eq_true (by have := HN.out; omega)
        clear h4
        go_wp2
        go_ret2
        exact rreg_bad E.out (by decide) (below_drewN (Below.refl _ _) _)
      · have t4 : decide ((64 : Int) ≤ (j : Int)) = false := decide_eq_false (by have := HN.out; omega)
        by_cases h5 : (cs.length : Int) - (endR rs : Int) < k
        · have E := Lib.hid (E5.out (by have := HI.out; omega) (by omega) (by omega))
          have t5 : decide ((N : Int) - (endR rs : Int) < k) = true := decide_eq_true (by rw [HC.out]; exact h5)
          clear h4 h5
          go_wp2
          go_ret2
          exact rreg_bad E.out (by decide) (below_drewN (Below.refl _ _) _)
        · have E := Lib.hid (E6.out (by have := HI.out; omega) (by omega) (by omega))
          have t5 : decide ((N : Int) - (endR rs : Int) < k) = false := decide_eq_false (by rw [HC.out]; exact h5)
          obtain ⟨kk, rfl⟩ : ∃ kk : Nat, k = (kk : Int) := ⟨k.toNat, by omega⟩
          have hkk : 1 ≤ kk ∧ endR rs + kk ≤ cs.length := by omega
          have h64 : rs.length < 64 := by omega
          have HD := Lib.hid (H.out.of_heap (w' := w.drewN d) rfl)
          have KD := Lib.hid (show Kept F w (w.drewN d) from ⟨rfl, rfl, rfl, Nat.le_refl _, fun _ _ _ => rfl⟩)
          have c1' : (w.drewN d).cell? ⟨p, 1, none⟩ = _ := c1
          have c0' : (w.drewN d).cell? ⟨p, 0, none⟩ = _ := c0
          have hsz := Lib.hid (show (w.drewN d).heap.size = w.heap.size from rfl)
          generalize w.drewN d = w2 at *
          clear c0 c1 h4 h5
          have HN2 := HN.out
          subst HN2
          go_wp2_with (at_builtin; refine wpList_append_own_at _ rfl _ _ 41 rfl 0 55 i0 (.agg #[.string ⟨#[]⟩, .int .i64 0, .int .i64 0]) 3 32 Try.underlying41 hi hz0 hz1 hz2 rfl (by decide) (.slice q rs.length c) rs.length (rs.flatMap rcells) rfl (World.ownsRow.alloc HD.out.regs _) ⟨w2.heap.size, 0, none⟩ 1 1 (rcells ⟨s, endR rs, kk⟩) rfl rfl (reg_new w2 ⟨s, endR rs, kk⟩) (rcells_one _) (by simp only [maxLen]; omega) (by omega) (Nat.zero_le _) ?_; intro v' w6 hown' hgrow _ hat; have hfx := Lib.hid hown'; have hgx := Lib.hid hgrow; have htx := Lib.hid hat; clear hat; obtain ⟨q1, cq1, rfl⟩ := own_shape hown'; have hbx := HD.out.p_grown (fun g hg' => own_type HD.out.regs hg') (by decide) hgx.out; clear hown' hgrow; have g0 := (cell_blk hbx 1).trans rfl; have g1 := frozen_blk hbx 1; clear hbx)
          go_ret2
          refine .inr ⟨E.out, kk, rfl, rfl, _, fun j hj => hj.imp id (fun hh => by have := hsz.out; omega), ⟨_, _, _, HD.out.addReg ⟨s, endR rs, kk⟩ h64 ⟨hkk.2, HS16.out, hkk.1⟩ hfx.out hgx.out htx.out⟩, ?_⟩
          exact ((KD.out.alloc _).grown hgx.out (fun j e => .inl (HD.out.frv j e))).setCell (p := ⟨p, 1, none⟩) (.inl HD.out.fp) _
set_option maxRecDepth 100000 in
theorem rfind_any (h : RbX w F p cb rv ev cs rs tr) (s : ByteArray) : ∃ r er, (idxI rs s = -1 ∧ r = rg0 ∧ er = 4 ∨ ∃ k : Nat, idxI rs s = (k : Int) ∧ rs[k]? = some r ∧ er = 0) ∧ Calls Try.prog 37 #[.pointer (some ⟨p, 0, none⟩), .string s] w (FiPost w r er) := by
  have hb1 : Below w.heap.size w (w.alloc zeroR) := (Below.refl _ w).alloc (Nat.le_refl _) _
  have h1 := h.below hb1
  have HV := Lib.hid (none_ok h1)
  have hnr := h.nrs
  have HR := Lib.hid (h1.regs)
  obtain ⟨q, c, rfl⟩ := own_shape h.regs
  have c1 := h1.c1
  have HB1 := Lib.hid hb1
  have hAx := heap_alloc_new w zeroR
  have z0 := (cell_blk hAx 0).trans rfl
  have z1 := (cell_blk hAx 1).trans rfl
  have z2 := (cell_blk hAx 2).trans rfl
  have v0 := frozen_blk hAx 0
  have v1 := frozen_blk hAx 1
  have v2 := frozen_blk hAx 2
  obtain ⟨n, hnn⟩ : ∃ n, n = rs.length := ⟨_, rfl⟩
  have HN := Lib.hid hnn
  rw [← hnn] at c1 hnr
  clear h h1 hb1 hnn hAx
  have key : ∀ (r : Rg) (er : Int), (idxI rs s = -1 → r = rg0 ∧ er = 4) → (∀ k : Nat, idxI rs s = (k : Int) → rs[k]? = some r ∧ er = 0) → Calls Try.prog 37 #[.pointer (some ⟨p, 0, none⟩), .string s] w (FiPost w r er) := by
    intro r er K1 K2
    have k1 := Lib.hid K1
    have k2 := Lib.hid K2
    clear K1 K2
    go_enter Try.func37, Try.ntmps37
    go_wp2_with (go_at_call 43; refine HV.out.mono ?_; rintro e w' ⟨rfl, rfl⟩)
    go_loopw [6] (fun i wr => ∃ k : Nat, k ≤ n ∧ i = .int .i64 (k : Int) ∧ Hid (∀ (i : Nat) (x : Rg), i < k → rs[i]? = some x → nameEq x s = false) ∧ w.alloc zeroR = wr) (fun i _ => n - (intOf i).toNat)
    case atStart => exact ⟨0, Nat.zero_le _, rfl, Lib.hid (fun i x h => absurd h (Nat.not_lt_zero _)), rfl⟩
    case round =>
      obtain ⟨k, hk, rfl, hd, rfl⟩ := hrel
      by_cases hlt : k < n
      · have t3 : decide ((k : Int) < (n : Int)) = true := decide_eq_true (by omega)
        have t3' : (k : Int) < (n : Int) := by omega
        obtain ⟨r', hr⟩ : ∃ r, rs[k]? = some r := ⟨_, List.getElem?_eq_getElem (by rw [← HN.out]; exact hlt)⟩
        obtain ⟨g, hg, y0, y1, y2, hmc⟩ := own_reg HR.out hr
        subst hg
        have HJ := Lib.hid hr
        clear hr
        by_cases hq : (r'.name.toList == s.toList) = true
        · have hkk := k2.out k (idxI_some HJ.out hq hd.out)
          obtain ⟨hr2, rfl⟩ := hkk
          rw [HJ.out] at hr2
          obtain rfl := Option.some.inj hr2
          clear hr2
          go_wp2
          refine bodyPost_ret (v := .tuple #[rgV r', .int .i64 0]) ?_ rfl ?_
          · simp [results, Try.results37, go_sem, rgV]
          · exact ⟨rfl, (Below.refl _ w).alloc (Nat.le_refl _) _⟩
        · have hq' : (r'.name.toList == s.toList) = false := by simpa using hq
          have HQ := Lib.hid (show nameEq r' s = false from hq')
          clear hq
          go_wp2
          go_roundw
          case rel =>
            refine ⟨k + 1, by omega, by go_num, Lib.hid (fun i x hi hx => ?_), trivial⟩
            by_cases e : i = k
            · subst e; rw [HJ.out] at hx; cases hx; exact HQ.out
            · exact hd.out i x (by omega) hx
          case measure => simp [intOf]; omega
      · obtain rfl : k = n := by omega
        have t3 : decide ((k : Int) < (k : Int)) = false := decide_eq_false (by omega)
        obtain ⟨rfl, rfl⟩ := k1.out (idxI_none (fun i x hx => hd.out i x (by rw [HN.out]; exact (List.getElem?_eq_some_iff.1 hx).1) hx))
        go_wp2
        refine bodyPost_ret (v := .tuple #[rgV rg0, .int .i64 4]) ?_ rfl ?_
        · simp [results, Try.results37, go_sem, rgV, rg0]
        · exact ⟨rfl, (Below.refl _ w).alloc (Nat.le_refl _) _⟩
  rcases idxI_cases rs s with ⟨e, _⟩ | ⟨k, r, e, hr, _⟩
  · exact ⟨rg0, 4, .inl ⟨e, rfl, rfl⟩, key _ _ (fun _ => ⟨rfl, rfl⟩) (fun k hk => by omega)⟩
  · exact ⟨r, 0, .inr ⟨k, e, hr, rfl⟩, key _ _ (fun h => by omega) (fun k' hk => by have : k' = k := by omega
                                                                                    subst this; exact ⟨hr, rfl⟩)⟩
end
end Go.Proofs.Ytonkenicikjefaa
