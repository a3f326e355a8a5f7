/- does: a call of both arenas. -/
import Derived.Test.YtonkenicikjefaaWe
import Derived.Deep.RegionHeld3
import Derived.Deep.QuietTactic
namespace Go.Proofs.Ytonkenicikjefaa
open Go.RowKit
attribute [local go_sem] guardEv guardRg
def DoesPost (w0 : World) (pa pb : Nat) (cs : List Nat) (tr : List (Nat × Nat)) (e : Ending) (W' : World) : Prop :=
  e = .returned (.bool true) ∧ ∃ cs' rs' tr', Pr w0 W' no pa pb cs' rs' tr' cs' rs' tr' ∧ cs'.length = cs.length ∧ tr'.length ≤ tr.length + 1
theorem does_end {w0 W' : World} {X : Nat → Prop} {pa pb : Nat} {cs cs' : List Nat} {rs' : List Rg} {tr tr' : List (Nat × Nat)} (h : Pr w0 W' X pa pb cs' rs' tr' cs' rs' tr') (h1 : cs'.length = cs.length) (h2 : tr'.length ≤ tr.length + 1) : DoesPost w0 pa pb cs tr (.returned (.bool true)) W' :=
  ⟨rfl, _, _, _, h.less (fun _ h => h.elim), h1, h2⟩
set_option maxRecDepth 100000 in
set_option maxHeartbeats 8000000 in
theorem does_any {w0 W : World} {pa pb : Nat} {cs : List Nat} {rs : List Rg} {tr : List (Nat × Nat)} (h : Pr w0 W no pa pb cs rs tr cs rs tr) (x : Cl) (hx : x.ok) (hs : x.name.size ≤ 100) (hl : tr.length < 8388608) :
    Calls Try.prog 14 #[.pointer (some ⟨pa, 0, none⟩), .pointer (some ⟨pb, 0, none⟩), clA x] W (DoesPost w0 pa pb cs tr) := by
  obtain ⟨wh, ps, nm, vl, sn⟩ := x
  obtain ⟨_, hps, hnm, hvl⟩ := hx
  unfold clA
  dsimp only at hps hnm hvl hs ⊢
  have P1 := Lib.hid (h.fresh (clO wh ps nm vl sn))
  have B1 := Lib.hid (heap_alloc_new W (clO wh ps nm vl sn))
  clear h
  have h9 : wh % 9 = 0 ∨ wh % 9 = 1 ∨ wh % 9 = 2 ∨ wh % 9 = 3 ∨ wh % 9 = 4 ∨ wh % 9 = 5 ∨ wh % 9 = 6 ∨ wh % 9 = 8 ∨ wh % 9 = 7 := by omega
  rcases h9 with h9 | h9 | h9 | h9 | h9 | h9 | h9 | h9 | h9
  · have e9 : (wh : Int) % 9 = 0 := by omega
    clear h9
    by_cases hE : stepE cs.length tr.length ps = 0
    · rcases stepE_cases (n := cs.length) (m := tr.length) (by omega) ps with ⟨e, _⟩ | ⟨a, _, _, _, e⟩ | ⟨at_, rfl, ha, _, _⟩
      · rw [hE] at e; cases e
      · rw [hE] at e; cases e
      · clear hE
        obtain ⟨z, hz⟩ : ∃ z, z = cs.getD at_ 0 := ⟨_, rfl⟩
        have HZ := Lib.hid hz
        clear hz
        go_enter Try.func14, Try.ntmps14
        go_wp2_with (first
          | (go_at_call 28; (with_reducible refine (pa_loadz P1.out at_ z HZ.out ha hl).mono ?_); rintro e w2 ⟨rfl, h2, hX⟩; have P2 := Lib.hid h2; have B2 := Lib.hid ((hX W.heap.size (.inr rfl)).trans B1.out); have cc := cl_cells B2.out; have z0 := cc.1; have z1 := cc.2.1; have z2 := cc.2.2.1; have z3 := cc.2.2.2.1; have z4 := cc.2.2.2.2; clear h2 hX cc)
          | (go_at_call 34; (with_reducible refine (pb_loadz P2.out at_ z HZ.out ha hl).mono ?_); rintro e w3 ⟨rfl, h3, hX⟩; have P3 := Lib.hid h3; have B3 := Lib.hid ((hX W.heap.size (.inr rfl)).trans B2.out); have cc := cl_cells B3.out; have z0 := cc.1; have z1 := cc.2.1; have z2 := cc.2.2.1; have z3 := cc.2.2.2.1; have z4 := cc.2.2.2.2; clear h3 hX cc))
        go_ret
        exact does_end P3.out rfl (by rw [List.length_append, List.length_singleton]; omega)
    · obtain ⟨E, hEE⟩ : ∃ E, stepE cs.length tr.length ps = E := ⟨_, rfl⟩
      rw [hEE] at hE
      have HE := Lib.hid hEE
      clear hEE
      go_enter Try.func14, Try.ntmps14
      go_wp2_with (first
        | (go_at_call 28; (with_reducible refine (pa_load_bad P1.out ps E HE.out hE).mono ?_); rintro e w' ⟨rfl, rfl⟩)
        | (go_at_call 34; (with_reducible refine (pb_load_bad P1.out ps E HE.out hE).mono ?_); rintro e w' ⟨rfl, rfl⟩))
      go_ret
      exact does_end P1.out rfl (by omega)
  · have e9 : (wh : Int) % 9 = 1 := by omega
    clear h9
    by_cases hE : stepE cs.length tr.length ps = 0
    · rcases stepE_cases (n := cs.length) (m := tr.length) (by omega) ps with ⟨e, _⟩ | ⟨a, _, _, _, e⟩ | ⟨at_, rfl, ha, _, _⟩
      · rw [hE] at e; cases e
      · rw [hE] at e; cases e
      · clear hE
        obtain ⟨z, hz⟩ : ∃ z, z = cs.getD at_ 0 := ⟨_, rfl⟩
        have HZ := Lib.hid hz
        clear hz
        go_enter Try.func14, Try.ntmps14
        go_wp2_with (first
          | (go_at_call 28; (with_reducible refine (pa_loadz P1.out at_ z HZ.out ha hl).mono ?_); rintro e w2 ⟨rfl, h2, hX⟩; have P2 := Lib.hid h2; have B2 := Lib.hid ((hX W.heap.size (.inr rfl)).trans B1.out); have cc := cl_cells B2.out; have z0 := cc.1; have z1 := cc.2.1; have z2 := cc.2.2.1; have z3 := cc.2.2.2.1; have z4 := cc.2.2.2.2; clear h2 hX cc)
          | (go_at_call 34; (with_reducible refine (pb_loadz P2.out at_ z HZ.out ha hl).mono ?_); rintro e w3 ⟨rfl, h3, hX⟩; have P3 := Lib.hid h3; have B3 := Lib.hid ((hX W.heap.size (.inr rfl)).trans B2.out); have cc := cl_cells B3.out; have z0 := cc.1; have z1 := cc.2.1; have z2 := cc.2.2.1; have z3 := cc.2.2.2.1; have z4 := cc.2.2.2.2; clear h3 hX cc))
        go_ret
        exact does_end P3.out rfl (by rw [List.length_append, List.length_singleton]; omega)
    · obtain ⟨E, hEE⟩ : ∃ E, stepE cs.length tr.length ps = E := ⟨_, rfl⟩
      rw [hEE] at hE
      have HE := Lib.hid hEE
      clear hEE
      go_enter Try.func14, Try.ntmps14
      go_wp2_with (first
        | (go_at_call 28; (with_reducible refine (pa_load_bad P1.out ps E HE.out hE).mono ?_); rintro e w' ⟨rfl, rfl⟩)
        | (go_at_call 34; (with_reducible refine (pb_load_bad P1.out ps E HE.out hE).mono ?_); rintro e w' ⟨rfl, rfl⟩))
      go_ret
      exact does_end P1.out rfl (by omega)
  · have e9 : (wh : Int) % 9 = 2 := by omega
    clear h9
    by_cases hE : stepE cs.length tr.length ps = 0
    · rcases stepE_cases (n := cs.length) (m := tr.length) (by omega) ps with ⟨e, _⟩ | ⟨a, _, _, _, e⟩ | ⟨at_, rfl, ha, _, _⟩
      · rw [hE] at e; cases e
      · rw [hE] at e; cases e
      · clear hE
        have P1 := Lib.hid (P1.out.below ((Below.refl _ (W.alloc (clO wh at_ nm vl sn))).drew))
        have A1 := Lib.hid (pa_store P1.out at_ vl ha hvl hl)
        have R1 := Lib.hid (pb_store P1.out at_ vl ha hl)
        have z := cl_cells B1.out
        have y1 := z.2.1
        have y3 := z.2.2.2.1
        clear z
        go_enter Try.func14, Try.ntmps14
        go_wp2
        go_region_held3 (fun w' => w'.cell? ⟨W.heap.size, 1, none⟩ = some (.int .i64 (at_ : Int)) ∧ w'.cell? ⟨W.heap.size, 3, none⟩ = some (.int .u64 (vl : Int)))
          (first | exact ⟨y1, y3⟩ | exact ⟨z1, z3⟩)
          (first
            | (go_at_call 30; (with_reducible refine (A1.out).mono ?_); rintro e w2 ⟨rfl, h2, hX⟩; have P2 := Lib.hid h2; have B2 := Lib.hid ((hX W.heap.size (.inr rfl)).trans B1.out); have cc := cl_cells B2.out; have z1 := cc.2.1; have z3 := cc.2.2.2.1; clear h2 hX cc)
            | (go_at_call 35; (with_reducible refine (R1.out).mono ?_); rintro e w2 ⟨rfl, h2, hX⟩; have Q2 := Lib.hid h2; have B2 := Lib.hid ((hX W.heap.size (.inr rfl)).trans B1.out); have cc := cl_cells B2.out; have z1 := cc.2.1; have z3 := cc.2.2.2.1; clear h2 hX cc)
            | (go_at_call 35; (with_reducible refine (pb_store P2.out at_ vl ha hl).mono ?_); rintro e w3 ⟨rfl, h3, hX⟩; have P3 := Lib.hid h3; have B3 := Lib.hid ((hX W.heap.size (.inr rfl)).trans B2.out); have cc := cl_cells B3.out; have z1 := cc.2.1; have z3 := cc.2.2.2.1; clear h3 hX cc)
            | (go_at_call 30; (with_reducible refine (pa_store Q2.out at_ vl ha hvl hl).mono ?_); rintro e w3 ⟨rfl, h3, hX⟩; have P3 := Lib.hid h3; have B3 := Lib.hid ((hX W.heap.size (.inr rfl)).trans B2.out); have cc := cl_cells B3.out; have z1 := cc.2.1; have z3 := cc.2.2.2.1; clear h3 hX cc))
        all_goals
          go_wp2
          go_ret
          exact does_end P3.out (List.length_set ..) (by rw [List.length_append, List.length_singleton]; omega)
    · obtain ⟨E, hEE⟩ : ∃ E, stepE cs.length tr.length ps = E := ⟨_, rfl⟩
      rw [hEE] at hE
      have HE := Lib.hid hEE
      have PN := Lib.hid (fun n => P1.out.below (below_drewN (Below.refl _ _) n))
      have z := cl_cells B1.out
      have y1 := z.2.1
      have y3 := z.2.2.2.1
      clear hEE z
      go_enter Try.func14, Try.ntmps14
      go_wp2
      go_quiet (first
        | (go_at_call 30; exact Calls.quiet_of_same (pa_store_bad (PN.out _) ps vl E HE.out hE))
        | (go_at_call 35; exact Calls.quiet_of_same (pb_store_bad (PN.out _) ps vl E HE.out hE)))
      go_wp2
      go_ret
      exact does_end (PN.out _) rfl (by omega)
  · have e9 : (wh : Int) % 9 = 3 := by omega
    clear h9
    by_cases hE : stepE cs.length tr.length ps = 0
    · rcases stepE_cases (n := cs.length) (m := tr.length) (by omega) ps with ⟨e, _⟩ | ⟨a, _, _, _, e⟩ | ⟨at_, rfl, ha, _, _⟩
      · rw [hE] at e; cases e
      · rw [hE] at e; cases e
      · clear hE
        have P1 := Lib.hid (P1.out.below ((Below.refl _ (W.alloc (clO wh at_ nm vl sn))).drew))
        have A1 := Lib.hid (pa_store P1.out at_ vl ha hvl hl)
        have R1 := Lib.hid (pb_store P1.out at_ vl ha hl)
        have z := cl_cells B1.out
        have y1 := z.2.1
        have y3 := z.2.2.2.1
        clear z
        go_enter Try.func14, Try.ntmps14
        go_wp2
        go_region_held3 (fun w' => w'.cell? ⟨W.heap.size, 1, none⟩ = some (.int .i64 (at_ : Int)) ∧ w'.cell? ⟨W.heap.size, 3, none⟩ = some (.int .u64 (vl : Int)))
          (first | exact ⟨y1, y3⟩ | exact ⟨z1, z3⟩)
          (first
            | (go_at_call 30; (with_reducible refine (A1.out).mono ?_); rintro e w2 ⟨rfl, h2, hX⟩; have P2 := Lib.hid h2; have B2 := Lib.hid ((hX W.heap.size (.inr rfl)).trans B1.out); have cc := cl_cells B2.out; have z1 := cc.2.1; have z3 := cc.2.2.2.1; clear h2 hX cc)
            | (go_at_call 35; (with_reducible refine (R1.out).mono ?_); rintro e w2 ⟨rfl, h2, hX⟩; have Q2 := Lib.hid h2; have B2 := Lib.hid ((hX W.heap.size (.inr rfl)).trans B1.out); have cc := cl_cells B2.out; have z1 := cc.2.1; have z3 := cc.2.2.2.1; clear h2 hX cc)
            | (go_at_call 35; (with_reducible refine (pb_store P2.out at_ vl ha hl).mono ?_); rintro e w3 ⟨rfl, h3, hX⟩; have P3 := Lib.hid h3; have B3 := Lib.hid ((hX W.heap.size (.inr rfl)).trans B2.out); have cc := cl_cells B3.out; have z1 := cc.2.1; have z3 := cc.2.2.2.1; clear h3 hX cc)
            | (go_at_call 30; (with_reducible refine (pa_store Q2.out at_ vl ha hvl hl).mono ?_); rintro e w3 ⟨rfl, h3, hX⟩; have P3 := Lib.hid h3; have B3 := Lib.hid ((hX W.heap.size (.inr rfl)).trans B2.out); have cc := cl_cells B3.out; have z1 := cc.2.1; have z3 := cc.2.2.2.1; clear h3 hX cc))
        all_goals
          go_wp2
          go_ret
          exact does_end P3.out (List.length_set ..) (by rw [List.length_append, List.length_singleton]; omega)
    · obtain ⟨E, hEE⟩ : ∃ E, stepE cs.length tr.length ps = E := ⟨_, rfl⟩
      rw [hEE] at hE
      have HE := Lib.hid hEE
      have PN := Lib.hid (fun n => P1.out.below (below_drewN (Below.refl _ _) n))
      have z := cl_cells B1.out
      have y1 := z.2.1
      have y3 := z.2.2.2.1
      clear hEE z
      go_enter Try.func14, Try.ntmps14
      go_wp2
      go_quiet (first
        | (go_at_call 30; exact Calls.quiet_of_same (pa_store_bad (PN.out _) ps vl E HE.out hE))
        | (go_at_call 35; exact Calls.quiet_of_same (pb_store_bad (PN.out _) ps vl E HE.out hE)))
      go_wp2
      go_ret
      exact does_end (PN.out _) rfl (by omega)
  · have e9 : (wh : Int) % 9 = 4 := by omega
    clear h9
    by_cases hE : regE cs.length rs sn nm = 0
    · obtain ⟨kk, rfl⟩ : ∃ kk : Nat, nm = (kk : Int) := ⟨nm.toNat, by have := (regE_zero hE).2.1; omega⟩
      obtain ⟨z, hz⟩ : ∃ z, z = endR rs := ⟨_, rfl⟩
      have HZ := Lib.hid hz
      have HE := Lib.hid hE
      clear hz hE
      go_enter Try.func14, Try.ntmps14
      go_wp2_with (first
        | (go_at_call 26; (with_reducible refine (pa_regionz P1.out sn kk z HZ.out (by omega) HE.out).mono ?_); rintro e w2 ⟨rfl, h2, hX⟩; have P2 := Lib.hid h2; have B2 := Lib.hid ((hX W.heap.size (.inr rfl)).trans B1.out); have cc := cl_cells B2.out; have z0 := cc.1; have z1 := cc.2.1; have z2 := cc.2.2.1; have z3 := cc.2.2.2.1; have z4 := cc.2.2.2.2; clear h2 hX cc)
        | (go_at_call 36; (with_reducible refine (pb_regionz P2.out sn kk z HZ.out (by omega) hnm.2 HE.out).mono ?_); rintro e w3 ⟨rfl, h3, hX⟩; have P3 := Lib.hid h3; have B3 := Lib.hid ((hX W.heap.size (.inr rfl)).trans B2.out); have cc := cl_cells B3.out; have z0 := cc.1; have z1 := cc.2.1; have z2 := cc.2.2.1; have z3 := cc.2.2.2.1; have z4 := cc.2.2.2.2; clear h3 hX cc))
      go_ret
      exact does_end P3.out rfl (by omega)
    · obtain ⟨E, hEE⟩ : ∃ E, regE cs.length rs sn nm = E := ⟨_, rfl⟩
      rw [hEE] at hE
      have HE := Lib.hid hEE
      clear hEE
      go_enter Try.func14, Try.ntmps14
      go_wp2_with (first
        | (go_at_call 26; (with_reducible refine (pa_region_bad P1.out sn nm E (by omega) HE.out hE).mono ?_); rintro e w2 ⟨rfl, hb2⟩; have P2 := Lib.hid (P1.out.below hb2); have B2 := Lib.hid ((hb2.block W.heap.size (P1.out.xlt _ (.inr rfl))).trans B1.out); have cc := cl_cells B2.out; have z0 := cc.1; have z1 := cc.2.1; have z2 := cc.2.2.1; have z3 := cc.2.2.2.1; have z4 := cc.2.2.2.2; clear cc hb2)
        | (go_at_call 36; (with_reducible refine (pb_region_bad' P2.out sn nm E (by omega) hnm HE.out hE).mono ?_); rintro e w3 ⟨rfl, hb3⟩; have P3 := Lib.hid (P2.out.below hb3); have B3 := Lib.hid ((hb3.block W.heap.size (P2.out.xlt _ (.inr rfl))).trans B2.out); have cc := cl_cells B3.out; have z0 := cc.1; have z1 := cc.2.1; have z2 := cc.2.2.1; have z3 := cc.2.2.2.1; have z4 := cc.2.2.2.2; clear cc hb3))
      go_ret
      exact does_end P3.out rfl (by omega)
  · have e9 : (wh : Int) % 9 = 5 := by omega
    clear h9
    obtain ⟨r, er, hfind⟩ := pr_find P1.out sn
    have FD := Lib.hid hfind
    clear hfind
    have ht : ∀ W : World, (Op.equalIn 10000 55 (.agg #[.string r.name, .int .i64 (r.base : Int), .int .i64 (r.size : Int)]) (.agg #[.string r.name, .int .i64 (r.base : Int), .int .i64 (r.size : Int)])).run Try.prog W = .ok true W := fun W => by rw [eqRg]; simp
    go_enter Try.func14, Try.ntmps14
    go_wp2_with (first
      | (go_at_call 27; (with_reducible refine (FD.out _ P1.out).1.mono ?_); rintro e w2 ⟨rfl, hb2'⟩; have hb2 := hb2'.alloc hb2'.size (.cells #[.string r.name, .int .i64 (r.base : Int), .int .i64 (r.size : Int)] 55); have P2 := Lib.hid (P1.out.below hb2); have B2 := Lib.hid ((hb2.block W.heap.size (P1.out.xlt _ (.inr rfl))).trans B1.out); have cc := cl_cells B2.out; have z0 := cc.1; have z1 := cc.2.1; have z2 := cc.2.2.1; have z3 := cc.2.2.2.1; have z4 := cc.2.2.2.2; clear cc hb2; have L2 := heap_alloc_new w2 (.cells #[.string r.name, .int .i64 (r.base : Int), .int .i64 (r.size : Int)] 55); have L2' := Lib.hid L2; have q5 := (cell_blk L2 0).trans rfl; have q6 := (cell_blk L2 1).trans rfl; have q7 := (cell_blk L2 2).trans rfl; clear hb2' L2)
      | (go_at_call 37; (with_reducible refine (FD.out _ P2.out).2.mono ?_); rintro e w3 ⟨rfl, hb3'⟩; have L3 := ((hb3'.alloc hb3'.size (.cells #[.string r.name, .int .i64 (r.base : Int), .int .i64 (r.size : Int)] 55)).block w2.heap.size (by simp)).trans L2'.out; have hb3 := hb3'.alloc hb3'.size (.cells #[.string r.name, .int .i64 (r.base : Int), .int .i64 (r.size : Int)] 55); have r5 := (cell_blk L3 0).trans rfl; have r6 := (cell_blk L3 1).trans rfl; have r7 := (cell_blk L3 2).trans rfl; have L4 := heap_alloc_new w3 (.cells #[.string r.name, .int .i64 (r.base : Int), .int .i64 (r.size : Int)] 55); have s5 := (cell_blk L4 0).trans rfl; have s6 := (cell_blk L4 1).trans rfl; have s7 := (cell_blk L4 2).trans rfl; have P3 := Lib.hid (P2.out.below hb3); clear hb3' L3 L4 hb3))
    go_ret
    exact does_end P3.out rfl (by omega)
  · have e9 : (wh : Int) % 9 = 6 := by omega
    clear h9
    have PN := Lib.hid (fun n => P1.out.below (below_drewN (Below.refl _ _) n))
    have z := cl_cells B1.out
    have y1 := z.2.1
    have y2 := z.2.2.1
    clear z
    go_enter Try.func14, Try.ntmps14
    go_wp2
    go_quiet (first
      | (go_at_call 31; exact Calls.quiet_of_same (pa_has (PN.out _) ps nm hps))
      | (go_at_call 38; exact Calls.quiet_of_same (pb_has (PN.out _) ps nm hps)))
    go_wp2
    go_ret
    exact does_end (PN.out _) rfl (by omega)
  · have e9 : (wh : Int) % 9 = 8 := by omega
    clear h9
    go_enter Try.func14, Try.ntmps14
    go_wp2_with (first
      | (go_at_call 33; (with_reducible refine (pa_forget P1.out).mono ?_); rintro e w2 ⟨rfl, h2, hX⟩; have P2 := Lib.hid h2; have B2 := Lib.hid ((hX W.heap.size (.inr rfl)).trans B1.out); have cc := cl_cells B2.out; have z0 := cc.1; have z1 := cc.2.1; have z2 := cc.2.2.1; have z3 := cc.2.2.2.1; have z4 := cc.2.2.2.2; clear h2 hX cc)
      | (go_at_call 39; (with_reducible refine (pb_forget P2.out).mono ?_); rintro e w3 ⟨rfl, h3, hX⟩; have P3 := Lib.hid h3; have B3 := Lib.hid ((hX W.heap.size (.inr rfl)).trans B2.out); have cc := cl_cells B3.out; have z0 := cc.1; have z1 := cc.2.1; have z2 := cc.2.2.1; have z3 := cc.2.2.2.1; have z4 := cc.2.2.2.2; clear h3 hX cc))
    go_ret
    exact does_end P3.out rfl (by rw [List.length_nil]; omega)
  · have e9 : (wh : Int) % 9 = 7 := by omega
    clear h9
    obtain ⟨xs, E, hxl, hsi⟩ := pr_since P1.out nm
    have SI := Lib.hid hsi
    clear hsi
    have hx100 : xs.length ≤ 100000000 := by omega
    go_enter Try.func14, Try.ntmps14
    go_wp2_with (first
      | (go_at_call 29; (with_reducible refine (SI.out _ P1.out).1.mono ?_); rintro e w2 ⟨v2, rfl, he2, hb2⟩; have E2 := Lib.hid he2; have P2 := Lib.hid (P1.out.below hb2); have B2 := Lib.hid ((hb2.block W.heap.size (P1.out.xlt _ (.inr rfl))).trans B1.out); have cc := cl_cells B2.out; have z0 := cc.1; have z1 := cc.2.1; have z2 := cc.2.2.1; have z3 := cc.2.2.2.1; have z4 := cc.2.2.2.2; clear cc hb2; clear he2)
      | (go_at_call 40; (with_reducible refine (SI.out _ P2.out).2.mono ?_); rintro e w3 ⟨v3, rfl, he3, hb3⟩; have E3 := Lib.hid he3; have F3 := Lib.hid (E2.out.below hb3); have P3 := Lib.hid (P2.out.below hb3); have B3 := Lib.hid ((hb3.block W.heap.size (P2.out.xlt _ (.inr rfl))).trans B2.out); have cc := cl_cells B3.out; have z0 := cc.1; have z1 := cc.2.1; have z2 := cc.2.2.1; have z3 := cc.2.2.2.1; have z4 := cc.2.2.2.2; clear cc hb3; clear he3))
    have PN := Lib.hid (fun n => P3.out.below (below_drewN (Below.refl _ _) n))
    have SN := Lib.hid (fun n => same_ev v2 v3 xs xs _ (F3.out.below (below_drewN (Below.refl _ _) n)) (E3.out.below (below_drewN (Below.refl _ _) n)) hx100)
    rw [eqB_true rfl] at SN
    go_quiet (first
      | (go_at_call 32; exact Calls.quiet_of_same (pa_room (PN.out _) nm))
      | (go_at_call 41; exact Calls.quiet_of_same (pb_room (PN.out _) nm))
      | (go_at_call 17; exact Calls.quiet_of (SN.out _)))
    go_wp2
    go_ret
    exact does_end (PN.out _) rfl (by omega)
end Go.Proofs.Ytonkenicikjefaa
