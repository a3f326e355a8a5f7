/- CompareSorts: the first loop. -/
import Derived.Test.YtalnhbjpfnodiaaYyy
namespace Go.Proofs.Ytalnhbjpfnodiaa
open Go.RowKit
/-- What is kept by the first loop. -/
def So1 (w0 : World) (g cap : Nat) (xs : List Nat) (a N qq i : Nat) (W : World) : Prop := OwR W g cap (owF xs a N qq i) ∧ Below w0.heap.size w0 W
theorem So1.put {w0 W : World} {g cap : Nat} {xs : List Nat} {a N qq i : Nat} (h : So1 w0 g cap xs a N qq i W) (hg : w0.heap.size ≤ g) (h1 : a + i * N + 1 < xs.length) (u : Nat) (hu : u = (owF xs a N qq i).getD (a + i * N) 0 % qq) :
    So1 w0 g cap xs a N qq (i + 1) ((W.setCell ⟨g, a + i * N, none⟩ (.int .u64 (u : Int))).drew.setCell ⟨g, a + i * N + 1, none⟩ (.int .u64 (i : Int))) := by
  subst hu
  obtain ⟨h2, hb⟩ := h
  have hl := owF_len xs a N qq i
  have o1 := h2.set (a + i * N) ((owF xs a N qq i).getD (a + i * N) 0 % qq) (by omega)
  have o2 : OwR (W.setCell ⟨g, a + i * N, none⟩ (.int .u64 (((owF xs a N qq i).getD (a + i * N) 0 % qq : Nat) : Int))).drew g cap _ := o1
  exact ⟨o2.set (a + i * N + 1) i (by rw [List.length_set]; omega), (((hb.setCell (p := ⟨g, a + i * N, none⟩) hg _).drew).setCell (p := ⟨g, a + i * N + 1, none⟩) hg _)⟩
set_option maxRecDepth 100000 in
set_option maxHeartbeats 40000000 in
theorem sorts_good (q : Option Addr) (cp l : Nat) (xs : List Nat) (a Y N mo : Nat) (w : World) (hv : URow (w.alloc (ccO a Y N)) (.slice q l cp) xs) (gd : Gd xs l a N Y) (hmo : mo < 256) :
    Calls Try.prog 8 #[.slice q l cp, .agg #[.int .i64 (a : Int), .int .i64 (Y : Int), .int .i64 (N : Int)], .int .u8 (mo : Int)] w (TwP w) := by
  have AW := Lib.hid awake_any
  obtain ⟨hl, hw, hl2, ⟨hN1, hN2⟩, ⟨hY1, hY2⟩, hbnd, hb64⟩ := gd
  have HG := Lib.hid (show Gd xs l a N Y from ⟨hl, hw, hl2, ⟨hN1, hN2⟩, ⟨hY1, hY2⟩, hbnd, hb64⟩)
  have B0 := Lib.hid (below_alloc w (ccO a Y N))
  have hcc := cc_cells (heap_alloc_new w (ccO a Y N))
  have Y0 := Lib.hid hcc
  have y0 := hcc.1
  have y1 := hcc.2.1
  have y2 := hcc.2.2
  clear hcc
  have hyn : 1 * N ≤ Y * N := Nat.mul_le_mul_right N (by omega)
  have hl0 : 0 < l := by omega
  have t1 : decide ((200 : Int) < (l : Int)) = false := decide_eq_false (by omega)
  have t1n : decide (200 < l) = false := decide_eq_false (by omega)
  have t2 : decide ((N : Int) < 2) = false := decide_eq_false (by omega)
  have t3 : decide ((N : Int) > 64) = false := decide_eq_false (by omega)
  have t3' : decide (64 < (N : Int)) = false := decide_eq_false (by omega)
  have t4 : decide ((Y : Int) < 1) = false := decide_eq_false (by omega)
  have t5 : decide ((Y : Int) > 16) = false := decide_eq_false (by omega)
  have t5' : decide (16 < (Y : Int)) = false := decide_eq_false (by omega)
  have t6 : decide ((a : Int) < 0) = false := decide_eq_false (by omega)
  have t7 : decide ((a : Int) > (l : Int)) = false := decide_eq_false (by omega)
  have t7' : decide ((l : Int) < (a : Int)) = false := decide_eq_false (by omega)
  have hal : a ≤ l := by omega
  have t7n : decide (l < a) = false := decide_eq_false (by omega)
  obtain ⟨ny, hny⟩ : ∃ z, z = N * Y := ⟨_, rfl⟩
  rw [Nat.mul_comm Y N, ← hny] at hb64 hbnd
  have e1' : ((N : Int) * (Y : Int)) = (ny : Int) := by rw [hny]; simp
  have e1 : IntKind.i64.wrap ((N : Int) * (Y : Int)) = (ny : Int) := by rw [e1', IntKind.wrap_i64]; omega
  have e2 : IntKind.i64.wrap ((l : Int) - (a : Int)) = ((l - a : Nat) : Int) := by rw [IntKind.wrap_i64]; omega
  obtain ⟨la, hla⟩ : ∃ z, z = l - a := ⟨_, rfl⟩
  rw [← hla] at e2
  obtain ⟨mi, hmi⟩ : ∃ z, z = min 64 la := ⟨_, rfl⟩
  have e3 : (if (la : Int) < 64 then (la : Int) else 64) = (mi : Int) := by split <;> omega
  have e3n : (if la < 64 then (la : Int) else 64) = (mi : Int) := by split <;> omega
  have t8 : decide ((ny : Int) > (mi : Int)) = false := decide_eq_false (by omega)
  have t8' : decide ((mi : Int) < (ny : Int)) = false := decide_eq_false (by omega)
  have t8n : decide (mi < ny) = false := decide_eq_false (by omega)
  obtain ⟨v1, w1, r1, o1, b1⟩ := run_clone (w.alloc (ccO a Y N)) 27 q cp l xs hl hv (by omega)
  obtain ⟨g, cap, rfl, hg, hO, hlz⟩ := OwR.of_own o1 hl0
  clear hlz
  rw [show (w.alloc (ccO a Y N)).heap.size = w.heap.size + 1 by simp] at r1
  have R1 := Lib.hid r1
  obtain ⟨r, hr⟩ : ∃ r, r = mo % 6 := ⟨_, rfl⟩
  obtain ⟨qq, hqq⟩ : ∃ z, z = r + 1 := ⟨_, rfl⟩
  have S1 := Lib.hid (show So1 (w.alloc (ccO a Y N)) g cap xs a N qq 0 w1 from ⟨hO, b1⟩)
  have HGG := Lib.hid hg
  have HQ := Lib.hid (show 1 ≤ qq ∧ qq ≤ 6 by omega)
  have m1 : (mo : Int) % 6 = (r : Int) := by omega
  have m1' : (mo : Int).tmod 6 = (r : Int) := by rw [Int.tmod_eq_emod_of_nonneg (by omega)]; omega
  have m2 : IntKind.u64.wrap (r : Int) = (r : Int) := by rw [IntKind.wrap_u64]; omega
  have m3 : IntKind.u64.wrap ((r : Int) + 1) = (qq : Int) := by rw [IntKind.wrap_u64]; omega
  have m4 : ((qq : Int) == 0) = false := by rw [beq_eq_false_iff_ne]; omega
  have m5 : ¬ (qq : Int) = 0 := by omega
  have m7 : ¬ qq = 0 := by omega
  have HY := Lib.hid (show Y ≤ 16 from hY2)
  clear hl0 hv hl hw hl2 hN1 hN2 hY1 hY2 hbnd hb64 hyn hny e1' hla hmi o1 b1 hO hg r1 hr hmo
  go_enter Try.func8, Try.ntmps8
  go_wp2_with (first
    | (at_builtin; refine Lib.wpList_append_run _ (by rfl) _ _ _ _ (by rfl) _ _ (by rfl) (by rfl) _ _ R1.out ?_))
  clear R1 y0 y1 y2 t1 t1n t2 t3 t3' t4 t5 t5' t6 t7 t7' t7n t8 t8' t8n e1 e2 e3 e3n hqq
  go_loopw [8] (fun s wr => ∃ i : Nat, i ≤ Y ∧ s = .int .i64 (i : Int) ∧ Hid (So1 (w.alloc (ccO a Y N)) g cap xs a N qq i wr)) (fun s _ => Y - (intOf s).toNat)
  case atStart => exact ⟨0, Nat.zero_le _, rfl, S1⟩
  case round =>
    clear S1
    obtain ⟨i, hi, rfl, hs⟩ := hrel
    have h16 := HY.out
    obtain ⟨z0, z1, z2⟩ := cc_at Y0.out hs.out.2
    by_cases hlt : i < Y
    · have t1 : decide ((i : Int) < (Y : Int)) = true := decide_eq_true (by omega)
      have t1n : decide (i < Y) = true := decide_eq_true hlt
      obtain ⟨p1, p2⟩ := HG.out.at hlt
      have hl200 := HG.out.l2
      have hN := HG.out.n2
      have h64 := HG.out.b64
      have hll := owF_len xs a N qq i
      have hlx := HG.out.hl
      have x0 := hs.out.1.cell (i := a + i * N) (by omega)
      have f0 := hs.out.1.frozen (a + i * N)
      have SP := Lib.hid (hs.out.put HGG.out (by omega) _ rfl)
      obtain ⟨u, hu⟩ : ∃ u, u = (owF xs a N qq i).getD (a + i * N) 0 := ⟨_, rfl⟩
      rw [← hu] at x0 SP
      obtain ⟨uq, huq⟩ : ∃ z, z = u % qq := ⟨_, rfl⟩
      have m6 : (u : Int).tmod (qq : Int) = (uq : Int) := by rw [Int.tmod_eq_emod_of_nonneg (by omega), huq]; simp
      have m6' : (u : Int) % (qq : Int) = (uq : Int) := by rw [huq]; simp
      rw [← huq] at SP
      obtain ⟨ij, hij⟩ : ∃ z, z = i * N := ⟨_, rfl⟩
      have e1' : ((i : Int) * (N : Int)) = (ij : Int) := by rw [hij]; simp
      have e1 : IntKind.i64.wrap ((i : Int) * (N : Int)) = (ij : Int) := by rw [e1', IntKind.wrap_i64]; omega
      rw [← hij] at x0 f0 SP p1 p2
      obtain ⟨ai, hai⟩ : ∃ z, z = a + ij := ⟨_, rfl⟩
      have e2 : IntKind.i64.wrap ((a : Int) + (ij : Int)) = (ai : Int) := by rw [hai, IntKind.wrap_i64]; omega
      rw [← hai] at x0 f0 SP p2
      have i1 : (ai : Int) < (l : Int) := by omega
      have i2 : (ai : Int) + 1 < (l : Int) := by omega
      have e3 : IntKind.i64.wrap ((ai : Int) + 1) = (ai : Int) + 1 := by rw [IntKind.wrap_i64]; omega
      have e4 : IntKind.u64.wrap (i : Int) = (i : Int) := by rw [IntKind.wrap_u64]; omega
      have f1 : ∀ v, (World.setCell wr ⟨g, ai, none⟩ v).frozen? ⟨g, ai + 1, none⟩ = false := fun v => by
        obtain ⟨f, hf, _⟩ := hs.out.1
        exact (hf.set ai v).frozen (ai + 1)
      have hne : w.heap.size ≠ g := by have := HGG.out; simp at this; omega
      have s0 : (wr.setCell ⟨g, ai, none⟩ (.int .u64 (uq : Int))).cell? ⟨w.heap.size, 0, none⟩ = some (.int .i64 (a : Int)) := by rw [World.cell?_setCell_other (h := fun e => hne (by cases e; rfl))]; exact z0
      have s2 : (wr.setCell ⟨g, ai, none⟩ (.int .u64 (uq : Int))).cell? ⟨w.heap.size, 2, none⟩ = some (.int .i64 (N : Int)) := by rw [World.cell?_setCell_other (h := fun e => hne (by cases e; rfl))]; exact z2
      have c1 : ∃ v, (wr.setCell ⟨g, ai, none⟩ (.int .u64 (uq : Int))).cell? ⟨g, ai + 1, none⟩ = some v := ⟨_, (hs.out.1.set ai uq (by omega)).cell (i := ai + 1) (by rw [List.length_set]; omega)⟩
      obtain ⟨vc, c1⟩ := c1
      have f2 := f1 (.int .u64 (uq : Int))
      have f3 : (World.setCell wr ⟨g, ai, none⟩ (.int .u64 (uq : Int))).drew.frozen? ⟨g, ai + 1, none⟩ = false := f2
      have c3 : (World.setCell wr ⟨g, ai, none⟩ (.int .u64 (uq : Int))).drew.cell? ⟨g, ai + 1, none⟩ = some vc := c1
      have n1 : ((ai : Int) + 1).toNat = ai + 1 := by omega
      clear hs hu huq hij e1' hai hll hlx p1 hne f1
      go_wp2
      refine wp_region_still_tail 24 (by kernel_rfl) (by kernel_rfl) ?_
      simp only [List.take_succ_cons, List.take_zero, List.drop_succ_cons, List.drop_zero]
      repeat (first | still_step)
      refine wpStill_nil ?_
      go_wp2
      go_roundw
      case rel => exact ⟨i + 1, by omega, by go_num, SP⟩
      case measure => simp [intOf]; omega
    · obtain rfl : Y = i := by omega
      have t1 : decide ((Y : Int) < (Y : Int)) = false := decide_eq_false (by omega)
      clear m1 m1' m2 m3 m4 m5 m7 hlt hi h16
      have hBW := hs.out.2
      obtain ⟨own, C, f, key, hown, hCe, SR, hwo⟩ := srt_ex HG.out HQ.out
      have hO := hs.out.1
      rw [← hown] at hO
      have AR := Lib.hid (arena_any _ own wr hO.row hwo (by rw [SR.ho]; have := HG.out.l2; omega))
      unfold ArenaP at AR
      obtain ⟨r1, r2⟩ := arC_self (xs := own) (by rw [SR.ho]; have := HG.out.n2; have := (HG.out.at (i := 0) (by have := HG.out.y2; omega)).2; omega)
      obtain ⟨T, hT⟩ : ∃ T, T = arT own := ⟨_, rfl⟩
      rw [← hT] at r2
      simp only [r1, ← hT] at AR
      rw [SR.ho] at AR r2
      have hso : soE own.length T.length (a : Int) (Y : Int) (N : Int) = 0 := soE_good (by have := HG.out.y2; omega) (by have := HG.out.y2; omega) (by have := HG.out.n2; omega) HG.out.b64 (by rw [SR.ho]; exact HG.out.bnd) (by
        have h1 := netK_len (Y - 1)
        have h2 := HG.out.y2
        have h3 : (Y - 1) * (Y - 1 + 1) ≤ 15 * 16 := Nat.mul_le_mul (by omega) (by omega)
        have h4 : (4 * N + 2) * (netK (Y - 1)).length ≤ 258 * 120 := Nat.mul_le_mul (by have := HG.out.n2; omega) (by omega)
        have := HG.out.l2
        omega)
      have SO := Lib.hid (fun (w0 W : World) (pa pb : Nat) (h : Pr w0 W no pa pb own [] T own [] T) => pa_act h fun F ar => Sort_any ar (a : Int) (Y : Int) (N : Int) (by have := HG.out.l2; unfold i64R; omega))
      simp only [hso, if_true, Int.toNat_natCast, ← hCe] at SO
      obtain ⟨T1, hT1⟩ : ∃ T1, T1 = T ++ soT a N (netK (Y - 1)) := ⟨_, rfl⟩
      have hl1 : T1.length = l + (4 * N + 2) * Y * (Y - 1) / 2 := by rw [hT1]; exact srt_steps HG.out.y2.1 a r2
      simp only [← hT1] at SO
      have HT1 := Lib.hid hl1
      have HSR := Lib.hid SR
      have hlC : l = C.length := SR.hC.symm
      have HLC := Lib.hid hlC
      have KB := Lib.hid (fun (W : World) (hb : Below wr.heap.size wr W) => And.intro (cc_at Y0.out (hBW.trans (hb.mono hBW.size))) (hO.of_block (hb.block _ hO.lt)))
      have HBW := Lib.hid hBW
      have hmk := run_make_row' (P := Try.prog) 50 4 (.bool false) 1 b_und b_info rfl .i64 .i64 Y (by have := HG.out.y2; omega) (by have := HG.out.y2; omega)
      have u1 : ((l : Int) != (l : Int)) = false := by simp
      have u2 : ((l : Int) == (l : Int)) = true := by simp
      clear hs hBW hown hCe SR hwo hO r1 r2 hT hso hT1 hl1 hlC
      go_wp2_with (first
        | (go_at_call 22; (with_reducible refine (AR.out).mono ?_); rintro e w2 ⟨pa, pb, rfl, hp⟩; have P2 := Lib.hid hp; obtain ⟨⟨z0, z1, z2⟩, _⟩ := KB.out _ P2.out.bel; clear hp)
        | (go_at_call 29; (with_reducible refine (SO.out _ _ _ _ P2.out).mono ?_); rintro e w3 ⟨rfl, hp, _⟩; have P3 := Lib.hid hp; clear hp)
        | (go_at_call 32; (with_reducible refine (pa_cells2 P3.out HLC.out).mono ?_); rintro e w4 ⟨h, c4, rfl, hr, hc4, hp, _⟩; have P4 := Lib.hid hp; have R4 := Lib.hid hr; obtain ⟨⟨z0, z1, z2⟩, _⟩ := KB.out _ P4.out.bel; clear hp hr))
      clear AR SO hmk u1 u2
      have CB := Lib.hid (fun (W : World) (hb : Below w4.heap.size w4 W) => KB.out W (P4.out.bel.trans (hb.mono P4.out.bel.size)))
      go_loopw [14] (fun s W => ∃ i : Nat, i ≤ Y ∧ s = .int .i64 (i : Int) ∧ Hid (So2 w4 4 Y f i W)) (fun s _ => Y - (intOf s).toNat)
      case atStart => exact ⟨0, Nat.zero_le _, rfl, Lib.hid (So2.first ..)⟩
      case round =>
        clear z0 z1 z2
        obtain ⟨i, hi, rfl, hs⟩ := hrel
        obtain ⟨⟨z0, z1, z2⟩, ho⟩ := CB.out _ hs.out.2
        by_cases hlt : i < Y
        · have t1 : decide ((i : Int) < (Y : Int)) = true := decide_eq_true (by omega)
          have t1n : decide (i < Y) = true := decide_eq_true hlt
          have h16 := HY.out
          have hl2 := HG.out.l2
          have hN := HSR.out.n2
          have hY := HSR.out.y2
          have hlC := HSR.out.hC
          obtain ⟨p1, p2⟩ := HSR.out.at hlt
          have hR := R4.out.below hs.out.2
          have k0 := urow_at0 hR (i := a + i * N) (by omega)
          rw [HSR.out.c0 hlt] at k0
          have k1 := urow_at0 hR (i := a + i * N + 1) (by omega)
          rw [HSR.out.c1 hlt] at k1
          obtain ⟨b, hb⟩ : ∃ b, b = f i := ⟨_, rfl⟩
          have hbY : b < Y := by rw [hb]; exact HSR.out.lt i hlt
          have k2 := hs.out.cell hbY
          rw [hb, metB_new HSR.out.inj hlt i (Nat.le_refl _), ← hb] at k2
          rw [← hb] at k0 k1 p2
          obtain ⟨kb, hkb⟩ : ∃ k, k = key b := ⟨_, rfl⟩
          rw [← hkb] at k0
          have HP := Lib.hid (fun (W : World) (h : So2 w4 4 Y f i W) => hb.symm ▸ h.put)
          have f0 := hs.out.frozen b
          have HS := Lib.hid hs.out
          have CJ := Lib.hid (fun (W : World) (hw : Below w4.heap.size w4 W) => And.intro (CB.out W hw).1 (And.intro (urow_at0 (R4.out.below hw) (i := a + i * N) (by omega)) (urow_at0 (R4.out.below hw) (i := a + i * N + 1) (by omega))))
          rw [HSR.out.c0 hlt, HSR.out.c1 hlt, ← hb, ← hkb] at CJ
          have SC := Lib.hid (fun (W : World) (h : So2 w4 4 Y f (i + 1) W) => srt_css HSR.out hlt (R4.out.below h.2) (CB.out W h.2).2)
          rw [← hb] at SC
          have PV := Lib.hid (fun h0 => srt_prev (h := h) (c4 := c4) HSR.out hlt h0)
          rw [← hb, ← hkb] at PV
          obtain ⟨bn, hbn⟩ : ∃ z, z = b * N := ⟨_, rfl⟩
          have g1' : ((b : Int) * (N : Int)) = (bn : Int) := by rw [hbn]; simp
          have g1 : IntKind.i64.wrap ((b : Int) * (N : Int)) = (bn : Int) := by rw [g1', IntKind.wrap_i64]; omega
          rw [← hbn] at SC p2
          obtain ⟨fr, hfr⟩ : ∃ z, z = a + bn := ⟨_, rfl⟩
          have g2 : IntKind.i64.wrap ((a : Int) + (bn : Int)) = (fr : Int) := by rw [hfr, IntKind.wrap_i64]; omega
          rw [← hfr] at SC p2
          obtain ⟨fn, hfn⟩ : ∃ z, z = fr + N := ⟨_, rfl⟩
          have g3 : IntKind.i64.wrap ((fr : Int) + (N : Int)) = (fn : Int) := by rw [hfn, IntKind.wrap_i64]; omega
          have g4 : (fn : Int) ≤ (cap : Int) := by have := ho.le; rw [HSR.out.ho] at this; omega
          have g5 : (fr : Int) ≤ (fn : Int) := by omega
          have g6 : fn - fr = N := by omega
          have g7 : IntKind.i64.wrap (b : Int) = (b : Int) := by rw [IntKind.wrap_i64]; omega
          obtain ⟨ij, hij⟩ : ∃ z, z = i * N := ⟨_, rfl⟩
          have e1' : ((i : Int) * (N : Int)) = (ij : Int) := by rw [hij]; simp
          have e1 : IntKind.i64.wrap ((i : Int) * (N : Int)) = (ij : Int) := by rw [e1', IntKind.wrap_i64]; omega
          rw [← hij] at k0 k1 p1 CJ SC PV
          obtain ⟨at', hat⟩ : ∃ z, z = a + ij := ⟨_, rfl⟩
          have e2 : IntKind.i64.wrap ((a : Int) + (ij : Int)) = (at' : Int) := by rw [hat, IntKind.wrap_i64]; omega
          rw [← hat] at k0 k1 p1 CJ SC PV
          obtain ⟨an, han⟩ : ∃ z, z = at' + N := ⟨_, rfl⟩
          have e3 : IntKind.i64.wrap ((at' : Int) + (N : Int)) = (an : Int) := by rw [han, IntKind.wrap_i64]; omega
          have HI := Lib.hid hlt
          have i7 := Lib.hid (show at' + N ≤ l ∧ 2 ≤ N ∧ l ≤ 200 by omega)
          have i1 : (an : Int) ≤ (c4 : Int) := by omega
          have i2 : (at' : Int) ≤ (an : Int) := by omega
          have i3 : an - at' = N := by omega
          have i3' : ((an : Int) - (at' : Int)).toNat = N := by omega
          have i4 : (1 : Int) < (N : Int) := by omega
          have t2 : decide ((b : Int) ≥ (Y : Int)) = false := decide_eq_false (by omega)
          have t2' : decide ((Y : Int) ≤ (b : Int)) = false := decide_eq_false (by omega)
          have t2n : decide (Y ≤ b) = false := decide_eq_false (by omega)
          have e4 : IntKind.u64.wrap (Y : Int) = (Y : Int) := by rw [IntKind.wrap_u64]; omega
          have i5 : (b : Int) < (Y : Int) := by omega
          clear hs hR hb hbY hkb hij e1' hat han hl2 hN hY hlC p1 p2 ho hbn g1' hfr hfn
          go_wp2
          go_quiet (fail)
          have H5 := Lib.hid (HP.out _ (HS.out.below (below_drewN (Below.refl _ _) nq)))
          obtain ⟨⟨y0, y1, y2⟩, j0, j1⟩ := CJ.out _ H5.out.2
          go_wp2
          go_quiet (fail)
          have H5' := Lib.hid (H5.out.below (below_drewN (Below.refl _ _) nq))
          go_wp2_with (first
            | (go_at_call 33; (with_reducible refine (SC.out _ H5'.out).mono ?_); rintro e w6 ⟨rfl, hd6⟩; have hb6 := drew_below hd6; clear hd6; have H6 := Lib.hid (H5'.out.below hb6); clear hb6))
          obtain ⟨⟨v0, v1, v2⟩, q0, q1⟩ := CJ.out _ H6.out.2
          by_cases i0 : i = 0
          · have s1 : decide ((i : Int) > 0) = false := decide_eq_false (by omega)
            have s1' : decide (0 < (i : Int)) = false := decide_eq_false (by omega)
            have s1n : decide (0 < i) = false := decide_eq_false (by omega)
            clear i0 PV
            go_quiet (fail)
            go_wp2
            go_roundw
            case rel => have hI := HI.out; have hY := HY.out; exact ⟨i + 1, by omega, by go_num, Lib.hid (H6.out.below (below_drewN (Below.refl _ _) nq))⟩
            case measure => have hI := HI.out; have hY := HY.out; simp [intOf]; omega
          · have s1 : decide ((i : Int) > 0) = true := decide_eq_true (by omega)
            have s1' : decide (0 < (i : Int)) = true := decide_eq_true (by omega)
            have s1n : decide (0 < i) = true := decide_eq_true (by omega)
            obtain ⟨ap, kp, bp, hap, hll, hpc⟩ := PV.out i0
            obtain ⟨x0, x1⟩ := hpc _ (R4.out.below H6.out.2)
            have s2 : IntKind.i64.wrap ((at' : Int) - (N : Int)) = (ap : Int) := by rw [IntKind.wrap_i64]; have := i7.out; omega
            have s3 : IntKind.i64.wrap ((ap : Int) + 1) = (ap : Int) + 1 := by rw [IntKind.wrap_i64]; have := i7.out; omega
            have s3n : ((ap : Int) + 1).toNat = ap + 1 := by omega
            have s4 : (ap : Int) < (l : Int) := by have := i7.out; omega
            have s5 : (ap : Int) + 1 < (l : Int) := by have := i7.out; omega
            rcases hll with hlt2 | ⟨rfl, hlt2⟩
            · have s6 : decide ((kp : Int) > (kb : Int)) = false := decide_eq_false (by omega)
              have s6' : decide ((kb : Int) < (kp : Int)) = false := decide_eq_false (by omega)
              have s6n : decide (kb < kp) = false := decide_eq_false (by omega)
              have s7 : ((kp : Int) == (kb : Int)) = false := by rw [beq_eq_false_iff_ne]; omega
              have s7n : ¬ kp = kb := by omega
              clear hlt2 i0 PV hap hpc
              go_quiet (fail)
              go_wp2
              go_roundw
              case rel => have hI := HI.out; have hY := HY.out; exact ⟨i + 1, by omega, by go_num, Lib.hid (H6.out.below (below_drewN (Below.refl _ _) nq))⟩
              case measure => have hI := HI.out; have hY := HY.out; simp [intOf]; omega
            · have s6 : decide ((kp : Int) > (kp : Int)) = false := decide_eq_false (by omega)
              have s6' : decide ((kp : Int) < (kp : Int)) = false := decide_eq_false (by omega)
              have s7 : ((kp : Int) == (kp : Int)) = true := by simp
              have s8 : decide ((bp : Int) > (b : Int)) = false := decide_eq_false (by omega)
              have s8' : decide ((b : Int) < (bp : Int)) = false := decide_eq_false (by omega)
              have s8n : decide (b < bp) = false := decide_eq_false (by omega)
              clear hlt2 i0 PV hap hpc
              go_quiet (fail)
              go_wp2
              go_roundw
              case rel => have hI := HI.out; have hY := HY.out; exact ⟨i + 1, by omega, by go_num, Lib.hid (H6.out.below (below_drewN (Below.refl _ _) nq))⟩
              case measure => have hI := HI.out; have hY := HY.out; simp [intOf]; omega
        · obtain rfl : Y = i := by omega
          have t1 : decide ((Y : Int) < (Y : Int)) = false := decide_eq_false (by omega)
          have hY := HY.out
          obtain ⟨ny', hny⟩ : ∃ z, z = N * Y := ⟨_, rfl⟩
          have hbnd := HG.out.bnd
          have hl2 := HG.out.l2
          rw [Nat.mul_comm Y N, ← hny] at hbnd
          have e1' : ((N : Int) * (Y : Int)) = (ny' : Int) := by rw [hny]; simp
          have e1 : IntKind.i64.wrap ((N : Int) * (Y : Int)) = (ny' : Int) := by rw [e1', IntKind.wrap_i64]; omega
          obtain ⟨en, hen⟩ : ∃ z, z = a + ny' := ⟨_, rfl⟩
          have e2 : IntKind.i64.wrap ((a : Int) + (ny' : Int)) = (en : Int) := by rw [hen, IntKind.wrap_i64]; omega
          have e2' : (a : Int) + (ny' : Int) = (en : Int) := by rw [hen]; simp
          have i1 : (a : Int) ≤ (c4 : Int) := by omega
          have i4 : (a : Int) ≤ (cap : Int) := by have := ho.le; rw [HSR.out.ho] at this; omega
          have i2 : (en : Int) ≤ (l : Int) := by omega
          have i3 : (l : Int) ≤ (cap : Int) := by have := ho.le; rw [HSR.out.ho] at this; omega
          have H5 := Lib.hid hs.out
          have S1 := Lib.hid (fun (W : World) (h : So2 w4 4 Y f Y W) => srt_head HSR.out (R4.out.below h.2) (CB.out W h.2).2)
          obtain ⟨pg, hpg⟩ : ∃ p : Option Addr, (if c4 = en then some (⟨h, 0, none⟩ : Addr) else some ⟨h, en, none⟩) = p := ⟨_, rfl⟩
          obtain ⟨pw, hpw⟩ : ∃ p : Option Addr, (if cap = en then some (⟨g, 0, none⟩ : Addr) else some ⟨g, en, none⟩) = p := ⟨_, rfl⟩
          have S2 := Lib.hid (fun (W : World) (hk : So2 w4 4 Y f Y W) => srt_tail HSR.out (show en = a + N * Y by rw [← hny, hen]) (R4.out.below hk.2) (CB.out W hk.2).2 hpg hpw)
          have ST := Lib.hid (fun (W : World) (h : So2 w4 4 Y f Y W) => pa_steps (P4.out.below h.2))
          rw [HT1.out] at ST
          have FB := Lib.hid (fun (W : World) (h : Below w4.heap.size w4 W) => B0.out.trans ((HBW.out.trans ((P4.out.bel.trans (h.mono P4.out.bel.size)).mono HBW.out.size)).mono B0.out.size))
          obtain ⟨sl, hsl⟩ : ∃ z, z = (4 * N + 2) * Y * (Y - 1) / 2 := ⟨_, rfl⟩
          rw [← hsl] at ST
          have hN2 := HSR.out.n2
          have hY2 := HSR.out.y2
          obtain ⟨s4, hs4⟩ : ∃ z, z = 4 * N := ⟨_, rfl⟩
          obtain ⟨s6, hs6⟩ : ∃ z, z = 4 * N + 2 := ⟨_, rfl⟩
          have b3 : IntKind.i64.wrap (4 * (N : Int)) = (s4 : Int) := by rw [hs4, IntKind.wrap_i64]; omega
          have b3' : 4 * (N : Int) = (s4 : Int) := by omega
          have b4 : IntKind.i64.wrap ((s4 : Int) + 2) = (s6 : Int) := by rw [hs4, hs6, IntKind.wrap_i64]; omega
          have b4' : (s4 : Int) + 2 = (s6 : Int) := by omega
          obtain ⟨qq6, hq6⟩ : ∃ z, z = s6 * Y := ⟨_, rfl⟩
          have hq2 : s6 * Y ≤ 258 * 16 := Nat.mul_le_mul (by omega) (by omega)
          have b5' : ((s6 : Int) * (Y : Int)) = (qq6 : Int) := by rw [hq6]; simp
          have b5 : IntKind.i64.wrap ((s6 : Int) * (Y : Int)) = (qq6 : Int) := by rw [b5', IntKind.wrap_i64]; omega
          obtain ⟨M1, hM1⟩ : ∃ z, z = Y - 1 := ⟨_, rfl⟩
          have b2 : IntKind.i64.wrap ((Y : Int) - 1) = (M1 : Int) := by rw [IntKind.wrap_i64]; omega
          have b2' : (Y : Int) - 1 = (M1 : Int) := by omega
          obtain ⟨q2, hq3⟩ : ∃ z, z = qq6 * M1 := ⟨_, rfl⟩
          have hq4 : qq6 * M1 ≤ 4128 * 15 := Nat.mul_le_mul (by omega) (by omega)
          have b6' : ((qq6 : Int) * (M1 : Int)) = (q2 : Int) := by rw [hq3]; simp
          have b6 : IntKind.i64.wrap ((qq6 : Int) * (M1 : Int)) = (q2 : Int) := by rw [b6', IntKind.wrap_i64]; omega
          have hsl2 : sl = q2 / 2 := by rw [hsl, hq3, hq6, hs6, hM1]
          have b7 : (q2 : Int).tdiv 2 = (sl : Int) := by rw [Int.tdiv_eq_ediv_of_nonneg (by omega)]; omega
          have b7' : (q2 : Int) / 2 = (sl : Int) := by omega
          have b8 : IntKind.i64.wrap (sl : Int) = (sl : Int) := by rw [IntKind.wrap_i64]; omega
          obtain ⟨tl, htl⟩ : ∃ z, z = l + sl := ⟨_, rfl⟩
          have b9 : IntKind.i64.wrap ((l : Int) + (sl : Int)) = (tl : Int) := by rw [htl, IntKind.wrap_i64]; omega
          have b9' : (l : Int) + (sl : Int) = (tl : Int) := by omega
          have b10 : ((tl : Int) == (tl : Int)) = true := by simp
          rw [← htl] at ST
          clear hlt hi hny hen hs ho hsl hs4 hs6 hq6 hq2 hM1 hq3 hq4 hsl2 htl hN2 hY2 hY
          clear KB HT1 HLC HG HQ HGG
          clear e1' e2' b3' b4' b5' b6' b2' b9' hl2 hbnd
          go_wp2
          clear e1 e2
          have Q1 := Lib.hid (fun (n : Nat) => Calls.quiet_of (S1.out _ (H5.out.below (below_drewN (Below.refl _ wr) n))))
          have Q2 := Lib.hid (fun (n : Nat) => Calls.quiet_of (S2.out _ (H5.out.below (below_drewN (Below.refl _ wr) n))))
          have Q3 := Lib.hid (fun (n : Nat) => Calls.quiet_of_same (less_flip (ST.out _ (H5.out.below (below_drewN (Below.refl _ wr) n)))))
          refine wp_region_quiet_tail (C := fun w' => ∃ n, w' = wr.drewN n) 39 (by kernel_rfl) (by kernel_rfl) ⟨1, rfl⟩ ?_
          simp only [List.take_succ_cons, List.take_zero, List.drop_succ_cons, List.drop_zero]
          repeat (quiet_step (first
            | (go_at_call 33; first | with_reducible exact Q1.out _ | with_reducible exact Q2.out _)
            | (go_at_call 34; with_reducible exact Q3.out _)))
          refine wpQuiet_nil ?_
          rintro _ ⟨nq, rfl⟩
          have FF := Lib.hid (FB.out _ (H5.out.2.trans ((below_drewN (Below.refl _ wr) nq).mono H5.out.2.size)))
          clear Q1 Q2 Q3 S1 S2 ST
          go_wp2_with (first
            | (go_at_call 21; (with_reducible refine (AW.out _).mono ?_); rintro e w13 ⟨rfl, hb13⟩))
          go_ret
          exact ⟨rfl, FF.out.trans (hb13.mono FF.out.size)⟩
end Go.Proofs.Ytalnhbjpfnodiaa
