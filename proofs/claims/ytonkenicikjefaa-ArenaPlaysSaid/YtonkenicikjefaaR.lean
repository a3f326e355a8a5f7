/- ArenaKeeps. -/
import Derived.Test.YtonkenicikjefaaQ
namespace Go.Proofs.Ytonkenicikjefaa
open Go.RowKit
/-- The loop's relation: k calls are done. -/
def KeepsR (w : World) (n p g k : Nat) (wr : World) : Prop := ∃ (cs : List Nat) (tr : List (Nat × Nat)), Ow w wr (fun b => b = g) p cs [] tr ∧ cs.length = n ∧ tr.length ≤ k ∧ LR wr g cs
theorem ow_fresh {w0 W : World} {R : Nat → Prop} {p : Nat} {cs : List Nat} {rs : List Rg} {tr : List (Nat × Nat)} (h : Ow w0 W R p cs rs tr) (o : Obj) : Ow w0 (W.alloc o) (fun b => R b ∨ b = W.heap.size) p cs rs tr :=
  h.beside ((Below.refl _ W).alloc (Nat.le_refl _) o) fun k hk => by
    rcases hk with h1 | h1
    · exact ⟨by have := h.rlt k h1; simp; omega, .inl h1⟩
    · exact ⟨by simp; omega, .inr (by omega)⟩
theorem ow_less {w0 W : World} {R R' : Nat → Prop} {p : Nat} {cs : List Nat} {rs : List Rg} {tr : List (Nat × Nat)} (h : Ow w0 W R p cs rs tr) (e : ∀ k, R' k → R k) : Ow w0 W R' p cs rs tr :=
  h.beside (Below.refl _ W) fun k hk => ⟨h.rlt k (e k hk), .inl (e k hk)⟩
/-- A store into a block beside the arena. -/
theorem ow_put {w0 W : World} {R : Nat → Prop} {p : Nat} {cs : List Nat} {rs : List Rg} {tr : List (Nat × Nat)} (h : Ow w0 W R p cs rs tr) (a : Addr) (v : Value) (ha : R a.block) (hw : w0.heap.size ≤ a.block) : Ow w0 (W.setCell a v) R p cs rs tr :=
  h.kept (G := fun k => k = a.block) ((Kept.refl (fun k => k = a.block) W).setCell (.inl rfl) v) (fun k hk => ⟨.inl (hk ▸ ha), hk ▸ hw⟩) fun k hk => ⟨by have := h.rlt k hk; simpa [World.setCell] using this, .inl hk⟩
theorem mod_even {x : Nat} (h : x % 2 = 0) : ((x : Int) % 2 == 0) = true := by
  simp; omega
theorem mod_odd {x : Nat} (h : ¬ x % 2 = 0) : ((x : Int) % 2 == 0) = false := by
  rw [beq_eq_false_iff_ne]; omega
set_option maxRecDepth 100000 in
set_option maxHeartbeats 4000000 in
theorem keeps_any (v : Value) (a : Int) (l : List Cl) (w : World) (hl : CS w v l) (ha : 0 ≤ a ∧ a < 65536) : Calls Try.prog 5 #[.int .u16 a, v] w fun e w' => e = .returned (.bool true) ∧ Below w.heap.size w w' := by
  have AW := Lib.hid awake_any
  have FA := Lib.hid (far_any v l w hl)
  obtain ⟨q, c, rfl, hx⟩ := hl
  obtain ⟨m, hm⟩ : ∃ m, m = l.length := ⟨_, rfl⟩
  rw [← hm] at FA ⊢
  obtain ⟨n, hn, hn1, hn2⟩ : ∃ n : Nat, (1 + a % 300) = (n : Int) ∧ 1 ≤ n ∧ n ≤ 300 := by
    exact ⟨(1 + a % 300).toNat, by omega, by omega, by omega⟩
  have NW := Lib.hid (ow_new n w w (fun _ => False) (Below.refl _ w) (fun _ h => h.elim) hn1 (by omega))
  have hmk := run_make_row' (P := Try.prog) 44 33 (.int .u64 0) 8 Try.underlying44 u64_info rfl .i64 .i64 n (by omega) (by omega)
  have HX := Lib.hid hx
  have HM := Lib.hid hm
  clear hx hm
  go_enter Try.func5, Try.ntmps5
  go_wp2_with (first
    | (go_at_call 10; (with_reducible refine (FA.out).mono ?_); rintro e w' ⟨b, rfl, rfl, hfar⟩; have HF := Lib.hid hfar; clear hfar; cases b)
    | (go_at_call 11; (with_reducible refine (AW.out _).mono ?_); rintro e w13 ⟨rfl, hb13⟩)
    | (go_at_call 12; (with_reducible refine (NW.out).mono ?_); rintro e w1 ⟨p, rfl, h1, hb1⟩; have H1 := Lib.hid h1; clear h1 hb1))
  rotate_left
  · go_ret
    exact ⟨rfl, hb13⟩
  obtain ⟨hlen, _⟩ := HF.out (by trivial)
  rw [← HM.out] at hlen
  have HO : Hid (KeepsR w n p w1.heap.size 0 (w1.alloc (.cells (madeCells #[.int .u64 0] n) 33))) := Lib.hid ⟨List.replicate n 0, [], ow_less (ow_fresh H1.out _) (fun k hk => .inr hk), List.length_replicate .., Nat.le_refl _, by
    unfold LR
    rw [List.length_replicate]
    exact (World.rowIs_made w1 (.int .u64 0) n 33).congr fun i _ => by rw [getD_rep]; rfl⟩
  obtain ⟨g, hg⟩ : ∃ g, g = w1.heap.size := ⟨_, rfl⟩
  have hwg := Lib.hid (show w.heap.size ≤ g from hg ▸ H1.out.bel.size)
  rw [← hg] at HO ⊢
  generalize w1.alloc (.cells (madeCells #[.int .u64 0] n) 33) = w2 at *
  clear hg H1 HF NW FA hmk hn ha
  go_loopw [9, 10, 11, 12, 13, 14] (fun i _ _ _ _ _ wr => ∃ k : Nat, k ≤ m ∧ i = .int .i64 (k : Int) ∧ KeepsR w n p g k wr) (fun i _ _ _ _ _ _ => m - (intOf i).toNat)
  case atStart => exact ⟨0, Nat.zero_le _, rfl, HO.out⟩
  case round =>
    obtain ⟨k, hk, rfl, hr⟩ := hrel
    clear HO
    have HR := Lib.hid hr
    obtain ⟨cs, tr, ho, hcl, htl, hlr⟩ := hr
    have OH := Lib.hid ho
    have LH := Lib.hid hlr
    have CH := Lib.hid hcl
    clear ho hcl hlr
    by_cases hlt : k < m
    · have t1 : decide ((k : Int) < (m : Int)) = true := decide_eq_true (by omega)
      have t1' : (k : Int) < (m : Int) := by omega
      obtain ⟨⟨wh, ps, nm, vl, sn⟩, hx⟩ : ∃ x, l[k]? = some x := ⟨_, List.getElem?_eq_getElem (by rw [← HM.out]; exact hlt)⟩
      obtain ⟨b, o, hq, hbl, ⟨_, hps, _, hvl⟩, y0, y1, y2, y3, y4⟩ := HX.out k _ hx
      dsimp only at hps hvl y0 y1 y2 y3 y4
      subst hq
      have x0 := (OH.out.bel.cell (p := ⟨b, o + k * 5, none⟩) hbl).trans y0
      have x1 := (OH.out.bel.cell (p := ⟨b, o + k * 5 + 1, none⟩) hbl).trans y1
      have x2 := (OH.out.bel.cell (p := ⟨b, o + k * 5 + 2, none⟩) hbl).trans y2
      have x3 := (OH.out.bel.cell (p := ⟨b, o + k * 5 + 3, none⟩) hbl).trans y3
      have x4 := (OH.out.bel.cell (p := ⟨b, o + k * 5 + 4, none⟩) hbl).trans y4
      have O2 := Lib.hid (ow_fresh OH.out (clO wh ps nm vl sn))
      have L2 := Lib.hid (show LR (wr.alloc (clO wh ps nm vl sn)) g cs from World.rowIs.alloc LH.out (clO wh ps nm vl sn))
      have hXX := Lib.hid (heap_alloc_new wr (clO wh ps nm vl sn))
      clear hx y0 y1 y2 y3 y4
      have htl2 : tr.length < 8388608 := by omega
      by_cases hpar : wh % 2 = 0
      · have t2 := mod_even hpar
        clear hpar
        by_cases hgood : 0 ≤ ps ∧ ps < (n : Int)
        · obtain ⟨at_, rfl⟩ : ∃ a : Nat, ps = (a : Int) := ⟨ps.toNat, by omega⟩
          have ga : decide (0 ≤ (at_ : Int)) = true := decide_eq_true (by omega)
          have gb : decide ((at_ : Int) < (n : Int)) = true := decide_eq_true (by omega)
          have gb' : (at_ : Int) < (n : Int) := by omega
          obtain ⟨z, hz⟩ : ∃ z, z = cs.getD at_ 0 := ⟨_, rfl⟩
          have LD := Lib.hid (ow_load O2.out at_ (by rw [CH.out]; omega) (by omega))
          rw [← hz] at LD
          have HZ := Lib.hid hz
          clear hz hgood
          go_wp2_with (go_at_call 28; (with_reducible refine (LD.out).mono ?_); rintro e w3 ⟨rfl, h3, _, hR⟩; have H3 := Lib.hid h3; have L3 := Lib.hid (show LR w3 g cs from World.rowIs.of_block L2.out (hR g (.inl rfl))); have y1 := (cl_cells ((hR wr.heap.size (.inr rfl)).trans hXX.out)).2.1; have yg : w3.cell? ⟨g, at_, none⟩ = some (.int .u64 (z : Int)) := (by rw [HZ.out]; exact World.rowIs.cell L3.out (by rw [CH.out]; omega)); clear h3 hR)
          go_roundw
          case rel => exact ⟨k + 1, by omega, by go_num, cs, tr ++ [(1, at_)], ow_less H3.out (fun _ h => .inl h), CH.out, by rw [List.length_append, List.length_singleton]; omega, L3.out⟩
          case measure => simp [intOf]; omega
        · have hE : stepE cs.length tr.length ps = 7 := stepE_range (by rw [CH.out]; omega)
          have LB := Lib.hid (ow_load_bad O2.out ps (by rw [hE]; decide))
          rw [hE] at LB
          clear hE
          by_cases h0 : 0 ≤ ps
          · have ga : decide (0 ≤ ps) = true := decide_eq_true h0
            have gb : decide (ps < (n : Int)) = false := decide_eq_false (by omega)
            clear hgood h0
            go_wp2_with (go_at_call 28; (with_reducible refine (LB.out).mono ?_); rintro e w' ⟨rfl, rfl⟩)
            go_roundw
            case rel => exact ⟨k + 1, by omega, by go_num, cs, tr, ow_less O2.out (fun _ h => .inl h), CH.out, by omega, L2.out⟩
            case measure => simp [intOf]; omega
          · have ga : decide (0 ≤ ps) = false := decide_eq_false h0
            clear hgood h0
            go_wp2_with (go_at_call 28; (with_reducible refine (LB.out).mono ?_); rintro e w' ⟨rfl, rfl⟩)
            go_roundw
            case rel => exact ⟨k + 1, by omega, by go_num, cs, tr, ow_less O2.out (fun _ h => .inl h), CH.out, by omega, L2.out⟩
            case measure => simp [intOf]; omega
      · have t2 := mod_odd hpar
        clear hpar
        by_cases hgood : 0 ≤ ps ∧ ps < (n : Int)
        · obtain ⟨at_, rfl⟩ : ∃ a : Nat, ps = (a : Int) := ⟨ps.toNat, by omega⟩
          have ga : decide (0 ≤ (at_ : Int)) = true := decide_eq_true (by omega)
          have gb : decide ((at_ : Int) < (n : Int)) = true := decide_eq_true (by omega)
          have gb' : (at_ : Int) < (n : Int) := by omega
          have SD := Lib.hid (ow_store O2.out at_ vl (by rw [CH.out]; omega) hvl (by omega))
          have C2 := Lib.hid (show (cs.set at_ vl).length = n by rw [List.length_set, CH.out])
          clear hgood
          go_wp2_with (first
            | (go_at_call 30; (with_reducible refine (SD.out).mono ?_); rintro e w3 ⟨rfl, h3, _, hR⟩; have H4 := Lib.hid (ow_put h3 ⟨g, at_, none⟩ (.int .u64 (vl : Int)) (.inl rfl) hwg.out); have l3 : LR w3 g cs := World.rowIs.of_block L2.out (hR g (.inl rfl)); have hxx := (cl_cells ((hR wr.heap.size (.inr rfl)).trans hXX.out)); have y1 := hxx.2.1; have y3 := hxx.2.2.2.1; have yg := World.rowIs.cell l3 (i := at_) (by rw [CH.out]; omega); have yf := World.rowIs.frozen l3 at_; have L4 := Lib.hid (l3.set at_ vl (by rw [CH.out]; omega)); clear h3 hR l3 hxx)
            | (go_at_call 24; (with_reducible refine (ow_cells' H4.out C2.out).mono ?_); rintro e w5 ⟨g5, c5, rfl, hu5, hb5⟩; have U5 := Lib.hid hu5; have V5 := Lib.hid ((L4.out.urow C2.out).below hb5); clear hu5)
            | (go_at_call 23; (with_reducible refine (same_self U5.out V5.out (by rw [C2.out]; omega)).mono ?_); rintro e w6 ⟨rfl, hb6⟩))
          go_roundw
          case rel => exact ⟨k + 1, by omega, by go_num, cs.set at_ vl, tr ++ [(2, at_)], ow_less ((H4.out.below hb5).below hb6) (fun _ h => .inl h), C2.out, by rw [List.length_append, List.length_singleton]; omega, (L4.out.below hb5).below hb6⟩
          case measure => simp [intOf]; omega
        · have hE : stepE cs.length tr.length ps = 7 := stepE_range (by rw [CH.out]; omega)
          have LB := Lib.hid (ow_store_bad O2.out ps vl (by rw [hE]; decide))
          rw [hE] at LB
          clear hE
          have U2 := Lib.hid (L2.out.urow CH.out)
          by_cases h0 : 0 ≤ ps
          · have ga : decide (0 ≤ ps) = true := decide_eq_true h0
            have gb : decide (ps < (n : Int)) = false := decide_eq_false (by omega)
            clear hgood h0
            go_wp2_with (first
              | (go_at_call 30; (with_reducible refine (LB.out).mono ?_); rintro e w' ⟨rfl, rfl⟩)
              | (go_at_call 24; (with_reducible refine (ow_cells' O2.out CH.out).mono ?_); rintro e w5 ⟨g5, c5, rfl, hu5, hb5⟩; have U5 := Lib.hid hu5; have V5 := Lib.hid (U2.out.below hb5); clear hu5)
              | (go_at_call 23; (with_reducible refine (same_self U5.out V5.out (by rw [CH.out]; omega)).mono ?_); rintro e w6 ⟨rfl, hb6⟩))
            go_roundw
            case rel => exact ⟨k + 1, by omega, by go_num, cs, tr, ow_less ((O2.out.below hb5).below hb6) (fun _ h => .inl h), CH.out, by omega, (L2.out.below hb5).below hb6⟩
            case measure => simp [intOf]; omega
          · have ga : decide (0 ≤ ps) = false := decide_eq_false h0
            clear hgood h0
            go_wp2_with (first
              | (go_at_call 30; (with_reducible refine (LB.out).mono ?_); rintro e w' ⟨rfl, rfl⟩)
              | (go_at_call 24; (with_reducible refine (ow_cells' O2.out CH.out).mono ?_); rintro e w5 ⟨g5, c5, rfl, hu5, hb5⟩; have U5 := Lib.hid hu5; have V5 := Lib.hid (U2.out.below hb5); clear hu5)
              | (go_at_call 23; (with_reducible refine (same_self U5.out V5.out (by rw [CH.out]; omega)).mono ?_); rintro e w6 ⟨rfl, hb6⟩))
            go_roundw
            case rel => exact ⟨k + 1, by omega, by go_num, cs, tr, ow_less ((O2.out.below hb5).below hb6) (fun _ h => .inl h), CH.out, by omega, (L2.out.below hb5).below hb6⟩
            case measure => simp [intOf]; omega
    · obtain rfl : k = m := by omega
      have t1 : decide ((k : Int) < (k : Int)) = false := decide_eq_false (by omega)
      have U2 := Lib.hid (LH.out.urow CH.out)
      go_wp2_with (first
        | (go_at_call 24; (with_reducible refine (ow_cells' OH.out CH.out).mono ?_); rintro e w5 ⟨g5, c5, rfl, hu5, hb5⟩; have U5 := Lib.hid hu5; have V5 := Lib.hid (U2.out.below hb5); clear hu5)
        | (go_at_call 23; (with_reducible refine (same_self U5.out V5.out (by rw [CH.out]; omega)).mono ?_); rintro e w6 ⟨rfl, hb6⟩)
        | (go_at_call 11; (with_reducible refine (AW.out _).mono ?_); rintro e w7 ⟨rfl, hb7⟩))
      go_ret
      have B := OH.out.bel
      have B5 := B.trans (hb5.mono B.size)
      have B6 := B5.trans (hb6.mono B5.size)
      exact ⟨rfl, B6.trans (hb7.mono B6.size)⟩
end Go.Proofs.Ytonkenicikjefaa
