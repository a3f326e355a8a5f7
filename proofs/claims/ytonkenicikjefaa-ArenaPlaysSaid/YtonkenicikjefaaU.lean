/- ArenaRegions. -/
import Derived.Test.YtonkenicikjefaaS
import Derived.Deep.RegionHeld3
namespace Go.Proofs.Ytonkenicikjefaa
open Go.RowKit
attribute [local go_sem] guardEv guardRg
/-- Regions one behind the other, each with a name of its own. -/
def Lay (rs : List Rg) : Prop := ∀ (j : Nat) (r : Rg), rs[j]? = some r → r.base = endR (rs.take j) ∧ ∀ (i : Nat) (q : Rg), i < j → rs[i]? = some q → nameEq q r.name = false
theorem nameEq_self (r : Rg) : nameEq r r.name = true := by unfold nameEq; simp
theorem Lay.idx {rs : List Rg} (h : Lay rs) {j : Nat} {r : Rg} (hj : rs[j]? = some r) : idxI rs r.name = (j : Int) := idxI_some hj (nameEq_self r) fun i q hi hq => (h j r hj).2 i q hi hq
theorem endR_app (rs : List Rg) (r : Rg) : endR (rs ++ [r]) = r.base + r.size := by unfold endR; simp
theorem idxI_neg {rs : List Rg} {s : ByteArray} (h : idxI rs s < 0) : ∀ r ∈ rs, nameEq r s = false := by
  rcases idxI_cases rs s with ⟨_, h1⟩ | ⟨k, r, e, _⟩
  · exact h1
  · omega
theorem Lay.add {rs : List Rg} (h : Lay rs) (s : ByteArray) (k : Nat) (hs : idxI rs s < 0) : Lay (rs ++ [⟨s, endR rs, k⟩]) := by
  intro j r hj
  by_cases hlt : j < rs.length
  · rw [List.getElem?_append_left hlt] at hj
    have h1 := h j r hj
    refine ⟨by rw [List.take_append_of_le_length (by omega)]; exact h1.1, fun i q hi hq => ?_⟩
    rw [List.getElem?_append_left (by omega)] at hq
    exact h1.2 i q hi hq
  · have hj2 : j = rs.length := by have := (List.getElem?_eq_some_iff.1 hj).1; simp at this; omega
    subst hj2
    rw [List.getElem?_append_right (Nat.le_refl _), Nat.sub_self] at hj
    cases hj
    refine ⟨by rw [List.take_append_of_le_length (Nat.le_refl _), List.take_length], fun i q hi hq => ?_⟩
    rw [List.getElem?_append_left hi] at hq
    exact idxI_neg hs q (List.mem_of_getElem? hq)
theorem idx_new {rs : List Rg} {s : ByteArray} (k : Nat) (hs : idxI rs s < 0) : idxI (rs ++ [⟨s, endR rs, k⟩]) s = ((rs.length : Nat) : Int) :=
  idxI_some (r := ⟨s, endR rs, k⟩) (by rw [List.getElem?_append_right (Nat.le_refl _), Nat.sub_self]; rfl) (by unfold nameEq; simp) fun i q hi hq => by
    rw [List.getElem?_append_left hi] at hq
    exact idxI_neg hs q (List.mem_of_getElem? hq)
/-- The loop's relation. -/
def RegsR (w : World) (p : Nat) (cs : List Nat) (en ma : Value) (wr : World) : Prop := ∃ rs : List Rg, Ow w wr no p cs rs [] ∧ Lay rs ∧ en = .int .i64 (endR rs : Int) ∧ ma = .int .i64 (rs.length : Int)
def RegsS (w : World) (p : Nat) (cs : List Nat) (rs : List Rg) (v : Value) (j : Nat) (at_ : Value) (wr : World) : Prop := Ow w wr no p cs rs [] ∧ RS wr v rs ∧ at_ = .int .i64 (endR (rs.take j) : Int)
set_option maxRecDepth 100000 in
set_option maxHeartbeats 4000000 in
theorem regs_any (v : Value) (a : Int) (l : List Cl) (w : World) (hl : CS w v l) (ha : 0 ≤ a ∧ a < 65536) : Calls Try.prog 7 #[.int .u16 a, v] w fun e w' => e = .returned (.bool true) ∧ Below w.heap.size w w' := by
  have AW := Lib.hid awake_any
  have FA := Lib.hid (far_any v l w hl)
  obtain ⟨q, c, rfl, hx⟩ := hl
  obtain ⟨m, hm⟩ : ∃ m, m = l.length := ⟨_, rfl⟩
  rw [← hm] at FA ⊢
  obtain ⟨n, hn, hn1, hn2⟩ : ∃ n : Nat, (1 + a % 300) = (n : Int) ∧ 1 ≤ n ∧ n ≤ 300 := by
    exact ⟨(1 + a % 300).toNat, by omega, by omega, by omega⟩
  have NW := Lib.hid (ow_new n w w no (Below.refl _ w) (fun _ h => h.elim) hn1 (by omega))
  have HX := Lib.hid hx
  have HM := Lib.hid hm
  clear hx hm
  go_enter Try.func7, Try.ntmps7
  go_wp2_with (first
    | (go_at_call 10; (with_reducible refine (FA.out).mono ?_); rintro e w' ⟨b, rfl, rfl, hfar⟩; have HF := Lib.hid hfar; clear hfar; cases b)
    | (go_at_call 11; (with_reducible refine (AW.out _).mono ?_); rintro e w13 ⟨rfl, hb13⟩)
    | (go_at_call 12; (with_reducible refine (NW.out).mono ?_); rintro e w1 ⟨p, rfl, h1, hb1⟩; have H1 := Lib.hid h1; clear h1 hb1))
  rotate_left
  · go_ret
    exact ⟨rfl, hb13⟩
  obtain ⟨hlen, hnam⟩ := HF.out (by trivial)
  rw [← HM.out] at hlen
  have HNM := Lib.hid hnam
  obtain ⟨cs, hcs⟩ : ∃ cs, cs = List.replicate n 0 := ⟨_, rfl⟩
  have CH := Lib.hid (show cs.length = n by rw [hcs, List.length_replicate])
  rw [← hcs] at H1
  have HO : Hid (RegsR w p cs (.int .i64 0) (.int .i64 0) w1) := Lib.hid ⟨[], H1.out, fun j r h => by simp at h, rfl, rfl⟩
  clear hcs H1 HF NW FA hn ha hnam
  go_loopw [8, 9, 10, 11, 12, 13, 14] (fun en ma i _ _ _ _ wr => ∃ k : Nat, k ≤ m ∧ i = .int .i64 (k : Int) ∧ RegsR w p cs en ma wr) (fun _ _ i _ _ _ _ _ => m - (intOf i).toNat)
  case atStart => exact ⟨0, Nat.zero_le _, rfl, HO.out⟩
  case round =>
    obtain ⟨k, hk, rfl, rs, ho, hlay, rfl, rfl⟩ := hrel
    clear HO
    have OH := Lib.hid ho
    have LY := Lib.hid hlay
    obtain ⟨_, _, _, o4, o5, o6, _⟩ := ho.ok
    have OK6 := Lib.hid o6
    rw [CH.out] at o5
    clear ho hlay o6
    by_cases hlt : k < m
    · have t1 : decide ((k : Int) < (m : Int)) = true := decide_eq_true (by omega)
      have t1' : (k : Int) < (m : Int) := by omega
      obtain ⟨⟨wh, ps, nm, vl, sn⟩, hx⟩ : ∃ x, l[k]? = some x := ⟨_, List.getElem?_eq_getElem (by rw [← HM.out]; exact hlt)⟩
      have hsn := HNM.out _ (List.mem_of_getElem? hx)
      obtain ⟨b, o, hq, hbl, ⟨_, _, hnm, _⟩, y0, y1, y2, y3, y4⟩ := HX.out k _ hx
      dsimp only at hnm hsn y2 y4
      subst hq
      have x2 := (OH.out.bel.cell (p := ⟨b, o + k * 5 + 2, none⟩) hbl).trans y2
      have x4 := (OH.out.bel.cell (p := ⟨b, o + k * 5 + 4, none⟩) hbl).trans y4
      have Y2 := Lib.hid y2
      have Y4 := Lib.hid y4
      clear hx y0 y1 y2 y3 y4
      have O2 := Lib.hid (OH.out.below ((Below.refl _ wr).drew))
      by_cases hE : regE cs.length rs sn nm = 0
      · obtain ⟨g1, g2, g3, g4, g5⟩ := regE_zero hE
        obtain ⟨kk, rfl⟩ : ∃ kk : Nat, nm = (kk : Int) := ⟨nm.toNat, by omega⟩
        have RG := Lib.hid (ow_region O2.out sn kk (by omega) hE)
        have LY2 := Lib.hid (LY.out.add sn kk g3)
        have IX2 := Lib.hid (idx_new kk g3)
        rw [CH.out] at g5
        obtain ⟨E, hEE⟩ : ∃ E, E = endR rs := ⟨_, rfl⟩
        rw [← hEE] at RG LY2 IX2 g5 ⊢
        have HE := Lib.hid hEE
        obtain ⟨r, hr⟩ : ∃ r : Rg, r = ⟨sn, E, kk⟩ := ⟨_, rfl⟩
        rw [← hr] at RG LY2 IX2
        have HR := Lib.hid hr
        have HG := Lib.hid (show (rs ++ [r])[rs.length]? = some r by rw [List.getElem?_append_right (Nat.le_refl _), Nat.sub_self]; rfl)
        have e1 : IntKind.i64.wrap ((E : Int) + (kk : Int)) = (E : Int) + (kk : Int) := by rw [IntKind.wrap_i64]; omega
        have t3 : decide ((kk : Int) < 1) = false := decide_eq_false (by omega)
        have t4 : decide ((n : Int) < (E : Int) + (kk : Int)) = false := decide_eq_false (by omega)
        have ht : ∀ W : World, (Op.equalIn 10000 55 (.agg #[.string sn, .int .i64 (E : Int), .int .i64 (kk : Int)]) (.agg #[.string sn, .int .i64 (E : Int), .int .i64 (kk : Int)])).run Try.prog W = .ok true W := fun W => by rw [eqRg]; simp
        clear g1 g2 g3 hE hEE hr
        go_wp2
        go_region_held3 (fun w' => w'.cell? ⟨b, o + k * 5 + 2, none⟩ = some (.int .i64 (kk : Int)) ∧ w'.cell? ⟨b, o + k * 5 + 4, none⟩ = some (.string sn))
          (first | exact ⟨x2, x4⟩ | exact ⟨z2, z4⟩)
          (first | (go_at_call 26; refine (RG.out).mono ?_; rintro e w3 ⟨rfl, h3, _, _⟩; have O3 := Lib.hid h3; have z2 := (O3.out.bel.cell (p := ⟨b, o + k * 5 + 2, none⟩) hbl).trans Y2.out; have z4 := (O3.out.bel.cell (p := ⟨b, o + k * 5 + 4, none⟩) hbl).trans Y4.out; clear h3))
        all_goals
          have FD := Lib.hid (show Calls Try.prog 27 #[.pointer (some ⟨p, 0, none⟩), .string sn] w3 (fun e w' => e = .returned (.tuple #[.agg #[.string sn, .int .i64 (E : Int), .int .i64 (kk : Int)], .int .i64 0]) ∧ Below w3.heap.size w3 w') from by have := ow_find_some O3.out sn rs.length r IX2.out HG.out; rw [HR.out] at this; exact this)
          go_wp2_with (go_at_call 27; (with_reducible refine (FD.out).mono ?_); rintro e w4 ⟨rfl, hb4⟩; have O4 := Lib.hid ((O3.out.below hb4).below ((Below.refl _ w4).alloc (Nat.le_refl _) (.cells #[.string sn, .int .i64 (E : Int), .int .i64 (kk : Int)] 55))); have q2 := (O4.out.bel.cell (p := ⟨b, o + k * 5 + 2, none⟩) hbl).trans Y2.out; have q4 := (O4.out.bel.cell (p := ⟨b, o + k * 5 + 4, none⟩) hbl).trans Y4.out; have hnw := heap_alloc_new w4 (.cells #[.string sn, .int .i64 (E : Int), .int .i64 (kk : Int)] 55); have q5 := (cell_blk hnw 0).trans rfl; have q6 := (cell_blk hnw 1).trans rfl; have q7 := (cell_blk hnw 2).trans rfl; clear hnw hb4)
          go_quiet (fail)
          go_wp2
          go_roundw
          case rel =>
            exact ⟨k + 1, by omega, by go_num, rs ++ [r], O4.out.below (below_drewN (Below.refl _ _) _), LY2.out,
              congrArg (Value.int .i64) (by rw [endR_app, HR.out]; show (E : Int) + (kk : Int) = ((E + kk : Nat) : Int); omega),
              congrArg (Value.int .i64) (by rw [List.length_append, List.length_singleton]; omega)⟩
          case measure => simp [intOf]; omega
      · have RB := Lib.hid (ow_region_bad O2.out sn nm (by omega) hE)
        have tE : (regE cs.length rs sn nm != 0) = true := by simpa using hE
        generalize regE cs.length rs sn nm = E at *
        clear hE
        go_wp2
        go_region_held3 (fun w' => w'.cell? ⟨b, o + k * 5 + 2, none⟩ = some (.int .i64 nm) ∧ w'.cell? ⟨b, o + k * 5 + 4, none⟩ = some (.string sn))
          (first | exact ⟨x2, x4⟩ | exact ⟨z2, z4⟩)
          (first | (go_at_call 26; refine (RB.out).mono ?_; rintro e w3 ⟨rfl, hb3⟩; have O3 := Lib.hid (O2.out.below hb3); have z2 := (O3.out.bel.cell (p := ⟨b, o + k * 5 + 2, none⟩) hbl).trans Y2.out; have z4 := (O3.out.bel.cell (p := ⟨b, o + k * 5 + 4, none⟩) hbl).trans Y4.out; clear hb3))
        all_goals
          go_wp2
          go_roundw
          case rel => exact ⟨k + 1, by omega, by go_num, rs, O3.out, LY.out, rfl, rfl⟩
          case measure => simp [intOf]; omega
    · obtain rfl : k = m := by omega
      have t1 : decide ((k : Int) < (k : Int)) = false := decide_eq_false (by omega)
      have t2 : decide ((64 : Int) < (rs.length : Int)) = false := decide_eq_false (by omega)
      obtain ⟨E, hE⟩ : ∃ E, E = endR rs := ⟨_, rfl⟩
      obtain ⟨N, hN⟩ : ∃ N, N = rs.length := ⟨_, rfl⟩
      rw [← hE] at o5 ⊢
      rw [← hN] at o4 t2 ⊢
      have HE := Lib.hid hE
      have HN := Lib.hid hN
      clear hE hN
      go_wp2_with (first
        | (go_at_call 21; (with_reducible refine (ow_regions OH.out).mono ?_); rintro e w5 ⟨v, rfl, hv, hb5⟩; have O5 := Lib.hid (OH.out.below hb5); have V5 := Lib.hid hv; obtain ⟨q5, c5, rfl, _⟩ := hv; rw [← HN.out] at V5 ⊢; clear hb5)
        | (go_at_call 15; (with_reducible refine (ow_steps O5.out).mono ?_); rintro e w' ⟨rfl, rfl⟩))
      have HO2 : Hid (RegsS w p cs rs (.slice q5 N c5) 0 (.int .i64 0) w5) := Lib.hid ⟨O5.out, V5.out, rfl⟩
      clear O5 V5 OH t1 t2
      go_loopw [16, 17, 18, 19] (fun at_ i _ _ wr => ∃ j : Nat, j ≤ N ∧ i = .int .i64 (j : Int) ∧ RegsS w p cs rs (.slice q5 N c5) j at_ wr) (fun _ i _ _ _ => N - (intOf i).toNat)
      case atStart => exact ⟨0, Nat.zero_le _, rfl, HO2.out⟩
      case round =>
        obtain ⟨j, hj, rfl, ho, hv, rfl⟩ := hrel
        clear HO2
        have OJ := Lib.hid ho
        have VJ := Lib.hid hv
        clear ho hv
        by_cases hjN : j < N
        · have t1 : decide ((j : Int) < (N : Int)) = true := decide_eq_true (by omega)
          have t1' : (j : Int) < (N : Int) := by omega
          obtain ⟨r, hr⟩ : ∃ r, rs[j]? = some r := ⟨_, List.getElem?_eq_getElem (by rw [← HN.out]; exact hjN)⟩
          have hrw := OK6.out r (List.mem_of_getElem? hr)
          have hix := LY.out.idx hr
          have hbase := (LY.out j r hr).1
          obtain ⟨q6, c6, hq, hxx⟩ := VJ.out
          obtain ⟨rb, ro, hq2, r0, r1, r2, hrl⟩ := hxx j r hr
          cases hq
          subst hq2
          have FD := Lib.hid (ow_find_some OJ.out r.name j r hix hr)
          unfold FiPost rgV at FD
          have ht : ∀ W : World, (Op.equalIn 10000 55 (.agg #[.string r.name, .int .i64 (r.base : Int), .int .i64 (r.size : Int)]) (.agg #[.string r.name, .int .i64 (r.base : Int), .int .i64 (r.size : Int)])).run Try.prog W = .ok true W := fun W => by rw [eqRg]; simp
          rw [← hbase] at ⊢
          have HR := Lib.hid hr
          have HB := Lib.hid hbase
          rw [CH.out] at hrw
          clear hr hix hbase hxx
          go_wp2_with (go_at_call 27; (with_reducible refine (FD.out).mono ?_); rintro e w6 ⟨rfl, hb6⟩; have O6 := Lib.hid ((OJ.out.below hb6).below ((Below.refl _ w6).alloc (Nat.le_refl _) (.cells #[.string r.name, .int .i64 (r.base : Int), .int .i64 (r.size : Int)] 55))); have V6 := Lib.hid ((VJ.out.below hb6).below ((Below.refl _ w6).alloc (Nat.le_refl _) (.cells #[.string r.name, .int .i64 (r.base : Int), .int .i64 (r.size : Int)] 55))); have q0 := ((hb6.alloc hb6.size (.cells #[.string r.name, .int .i64 (r.base : Int), .int .i64 (r.size : Int)] 55)).cell (p := ⟨rb, ro + j * 3, none⟩) hrl).trans r0; have q1 := ((hb6.alloc hb6.size (.cells #[.string r.name, .int .i64 (r.base : Int), .int .i64 (r.size : Int)] 55)).cell (p := ⟨rb, ro + j * 3 + 1, none⟩) hrl).trans r1; have q2 := ((hb6.alloc hb6.size (.cells #[.string r.name, .int .i64 (r.base : Int), .int .i64 (r.size : Int)] 55)).cell (p := ⟨rb, ro + j * 3 + 2, none⟩) hrl).trans r2; have hnw := heap_alloc_new w6 (.cells #[.string r.name, .int .i64 (r.base : Int), .int .i64 (r.size : Int)] 55); have q5 := (cell_blk hnw 0).trans rfl; have q6 := (cell_blk hnw 1).trans rfl; have q7 := (cell_blk hnw 2).trans rfl; clear hnw hb6 r0 r1 r2)
          go_quiet (fail)
          go_wp2
          go_roundw
          case rel =>
            refine ⟨j + 1, by omega, by go_num, O6.out.below (below_drewN (Below.refl _ _) _), V6.out.below (below_drewN (Below.refl _ _) _), congrArg (Value.int .i64) ?_⟩
            rw [List.take_add_one, HR.out, Option.toList_some, endR_app]
            omega
          case measure => simp [intOf]; omega
        · obtain rfl : j = N := by omega
          have t1 : decide ((j : Int) < (j : Int)) = false := decide_eq_false (by omega)
          have hee : endR (rs.take j) = E := by rw [HN.out, List.take_length, HE.out]
          rw [hee]
          clear hee
          go_wp2_with (go_at_call 11; (with_reducible refine (AW.out _).mono ?_); rintro e w13 ⟨rfl, hb13⟩)
          go_ret
          exact ⟨rfl, OJ.out.bel.trans (hb13.mono OJ.out.bel.size)⟩
end Go.Proofs.Ytonkenicikjefaa
