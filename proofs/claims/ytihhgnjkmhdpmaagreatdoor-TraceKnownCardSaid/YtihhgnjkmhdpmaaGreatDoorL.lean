/- Parts. -/
import Derived.Test.YtihhgnjkmhdpmaaGreatDoorPd
import Derived.Deep.OwnRows
namespace Go.Proofs.YtihhgnjkmhdpmaaGreatDoor
open Go.RowKit
theorem holds_block {w w' : World} {B : Nat} {d : Array Pl} (h : Go.Sort.HoldsK pc 3 w B 0 d) (e : w'.heap[B]? = w.heap[B]?) : Go.Sort.HoldsK pc 3 w' B 0 d := fun j hj =>
  ⟨(cell_of_block e _).trans (h j hj).1, by
    have := (h j hj).2
    unfold World.frozen? at this ⊢
    simpa only [e] using this⟩
theorem InOrd.below {w w' : World} {B : Nat} {d : Array Pl} {rs : List Rg} (h : InOrd w B d rs) (hb : Below w.heap.size w w') : InOrd w' B d rs :=
  ⟨h.size, Nat.lt_of_lt_of_le h.lt hb.size, holds_block h.holds (hb.block _ h.lt), h.perm, h.sorted⟩
theorem ranges_block {w w' : World} {P : Program} {k : TypeId} {R : Value → Option (Dm × List MemPlace)} {b r n : Nat} {D : Dm} {left : Lit → Bool} {cnt : Nat} (h : w.ranges P k R b r n D left cnt) (e1 : w'.heap[b]? = w.heap[b]?) (e2 : w'.heap[r]? = w.heap[r]?) : w'.ranges P k R b r n D left cnt := by
  obtain ⟨es, clock, since, seen, c0, hb, F, hs, hD, hr, rest⟩ := h
  exact ⟨es, clock, since, seen, c0, e1.trans hb, F, hs, hD, e2.trans hr, rest⟩
def PaPost (w : World) (l : List Ev) (rs : List Rg) (e : Ending) (w' : World) : Prop := ∃ v, e = .returned (.tuple #[v, .int .i64 (partE rs)]) ∧ IRow w' v (partsR rs l) ∧ Below w.heap.size w w'
noncomputable def ptV (rs : List Rg) (left : Lit → Bool) (l : List Ev) (j : Nat) : Value := .int .i64 ((cntL (gR rs j) left l : Nat) : Int)
theorem info_int : (Tryz.prog.info? 3).map (fun i => (i.zero, i.size, i.bytes)) = some (some (.int .i64 0), 1, 8) := by kernel_rfl
theorem IRow.of_row {W : World} {b n : Nat} {xs : List Int} {f : Nat → Value} (h : W.rowIs b 3 n f) (hn : xs.length = n) (hf : ∀ i x, xs[i]? = some x → f i = .int .i64 x) : IRow W (.slice (some ⟨b, 0, none⟩) n n) xs := by
  subst hn
  refine ⟨_, _, rfl, Nat.le_refl _, fun i x hx => ⟨b, 0, rfl, ?_⟩⟩
  have hi : i < xs.length := (List.getElem?_eq_some_iff.1 hx).1
  rw [Nat.zero_add, h.cell hi, hf i x hx]
set_option maxHeartbeats 3200000 in
set_option maxRecDepth 100000 in
theorem parts_any (va vr : Value) (l : List Ev) (rs : List Rg) (w : World) (hv : TR w va l) (hr : RG w vr rs) (hl : l.length ≤ 100000000) (hn0 : rs.length ≤ 1000000) : Calls Tryz.prog 18 #[va, vr] w (PaPost w l rs) := by
  obtain ⟨i0, hi, hz0, hz1, hz2⟩ := info_parts info_int
  have HVA := Lib.hid hv
  have HVR := Lib.hid hr
  obtain ⟨hro, p, c, rfl, hx⟩ := hr
  have HX := Lib.hid hx
  have HRO := Lib.hid hro
  obtain ⟨n, hn⟩ : ∃ n, n = rs.length := ⟨_, rfl⟩
  rw [← hn] at hn0 HVR ⊢
  have HN := Lib.hid hn
  have HLL := Lib.hid hl
  have MK : ∀ W, (Instr.makeSlice 41 (.int .i64 ((n : Int) + 1)) (.int .i64 ((n : Int) + 1))).run Tryz.prog W = .ok (.slice (some ⟨W.heap.size, 0, none⟩) (n + 1) (n + 1)) (W.alloc (.cells (madeCells #[.int .i64 0] (n + 1)) 3)) := fun W => by
    have := run_make_row 41 3 i0 _ Tryz.underlying41 hi hz0 hz1 rfl .i64 .i64 (n + 1) (by rw [hz2]; omega) (by omega) W
    simpa using this
  have HMK := Lib.hid MK
  clear hx hro hn hv hl MK
  go_enter Tryz.func18, Tryz.ntmps18
  go_wp2
  go_loopw [7, 15] (fun _ i wr => ∃ k : Nat, k ≤ n ∧ i = .int .i64 (k : Int) ∧ Hid (∀ j r, j < k → rs[j]? = some r → rgOk r) ∧ Below w.heap.size w wr) (fun _ i _ => n - (intOf i).toNat)
  case atStart => exact ⟨0, Nat.zero_le _, rfl, Lib.hid (fun j r h => by omega), Below.refl _ _⟩
  case round =>
    obtain ⟨k, hk, rfl, hg, hb⟩ := hrel
    by_cases hlt : k < n
    · have tl : decide ((k : Int) < (n : Int)) = true := decide_eq_true (by omega)
      obtain ⟨r, hrk⟩ : ∃ r, rs[k]? = some r := ⟨_, List.getElem?_eq_getElem (by rw [← HN.out]; exact hlt)⟩
      obtain ⟨b, o, rfl, hbl, c0, c1, c2⟩ := HX.out k r hrk
      replace c0 := (hb.cell (p := ⟨b, o + k * 3, none⟩) hbl).trans c0
      replace c1 := (hb.cell (p := ⟨b, o + k * 3 + 1, none⟩) hbl).trans c1
      replace c2 := (hb.cell (p := ⟨b, o + k * 3 + 2, none⟩) hbl).trans c2
      obtain ⟨⟨o1, o2⟩, o3, o4⟩ := HRO.out r (List.mem_of_getElem? hrk)
      have HB := Lib.hid (fun o : Obj => hb.alloc hb.size o)
      have HM := Lib.hid (List.mem_of_getElem? hrk)
      clear hb hbl
      by_cases q1 : r.2.1 < 0
      · have t1 : decide (r.2.1 < 0) = true := decide_eq_true q1
        have E := Lib.hid (partE_7 HM.out (by unfold rgBad; simp [q1]))
        have R := Lib.hid (show partsR rs l = [] by unfold partsR; rw [E.out]; rfl)
        clear q1 hrk
        go_wp2
        go_ret2
        exact ⟨_, by rw [E.out]; rfl, by rw [R.out]; exact IRow.nil _, HB.out _⟩
      · have t1 : decide (r.2.1 < 0) = false := decide_eq_false q1
        by_cases q2 : r.2.2 < 1
        · have t2 : decide (r.2.2 < 1) = true := decide_eq_true q2
          have E := Lib.hid (partE_7 HM.out (by unfold rgBad; simp [q2]))
          have R := Lib.hid (show partsR rs l = [] by unfold partsR; rw [E.out]; rfl)
          clear q1 q2 hrk
          go_wp2
          go_ret2
          exact ⟨_, by rw [E.out]; rfl, by rw [R.out]; exact IRow.nil _, HB.out _⟩
        · have t2 : decide (r.2.2 < 1) = false := decide_eq_false q2
          have hw : IntKind.i64.wrap (65536 - r.2.2) = 65536 - r.2.2 := IntWalk.i64_in _ (by omega)
          by_cases q3 : 65536 - r.2.2 < r.2.1
          · have t3 : decide (65536 - r.2.2 < r.2.1) = true := decide_eq_true q3
            have E := Lib.hid (partE_7 HM.out (by unfold rgBad; simp [q3]))
            have R := Lib.hid (show partsR rs l = [] by unfold partsR; rw [E.out]; rfl)
            clear q1 q2 q3 hrk
            go_wp2
            go_ret2
            exact ⟨_, by rw [E.out]; rfl, by rw [R.out]; exact IRow.nil _, HB.out _⟩
          · have t3 : decide (65536 - r.2.2 < r.2.1) = false := decide_eq_false q3
            have G := Lib.hid (show ∀ j r', j < k + 1 → rs[j]? = some r' → rgOk r' from fun j r' hj hr' => by
              rcases Nat.lt_or_ge j k with h | h
              · exact hg.out j r' h hr'
              · obtain rfl : j = k := by omega
                rw [hrk] at hr'; cases hr'
                unfold rgOk; omega)
            clear q1 q2 q3 hrk
            go_wp2
            go_roundw
            case rel => exact ⟨k + 1, by omega, by go_num, G, HB.out _⟩
            case measure => simp [intOf]; omega
    · obtain rfl : k = n := by omega
      have tl : decide ((k : Int) < (k : Int)) = false := decide_eq_false (by omega)
      have HG := Lib.hid (show ∀ r ∈ rs, rgOk r from fun r hr => by
        obtain ⟨j, hj⟩ := List.getElem?_of_mem hr
        exact hg.out j r (by have := (List.getElem?_eq_some_iff.1 hj).1; rw [HN.out]; exact this) hj)
      have IO := Lib.hid (inOrder_any _ rs wr (HVR.out.below hb) (by rw [← HN.out]; exact hn0) HG.out)
      have HB := Lib.hid hb
      clear hb hg
      go_wp2_with (go_at_call 37; refine IO.out.mono ?_; rintro e wb ⟨B, d, rfl, hB, hio, hbb⟩; have HIO := Lib.hid hio; clear hio)
      rw [← HN.out]
      have hwb := hbb.size
      have hw0 := HB.out.size
      go_loopw [9] (fun i wr' => ∃ j : Nat, j ≤ k ∧ i = .int .i64 ((j : Int) + 1) ∧ Hid (∀ i, i < j → i + 1 < k → (d[i]!).2.1 ≤ (d[i + 1]!).1) ∧ ∃ q, wr' = wb.drewN q) (fun i _ => k + 1 - (intOf i).toNat)
      case atStart => exact ⟨0, Nat.zero_le _, rfl, Lib.hid (fun i h => by omega), 0, rfl⟩
      case round =>
        obtain ⟨j, hj, rfl, hnx, q, rfl⟩ := hrel
        by_cases hjk : j + 1 < k
        · have tj : decide ((j : Int) + 1 < (k : Int)) = true := decide_eq_true (by omega)
          have tj2 : (j : Int) + 1 < (k : Int) := by omega
          have tj3 : (j : Int) < (k : Int) := by omega
          have hwj : IntKind.i64.wrap ((j : Int) + 1 - 1) = (j : Int) := by rw [IntWalk.i64_in _ (by omega)]; omega
          have hwj2 : IntKind.i64.wrap (j : Int) = (j : Int) := IntWalk.i64_in _ (by omega)
          have hns : ((j : Int) + 1).toNat = j + 1 := by omega
          obtain ⟨_, m1, _⟩ := holds_cells HIO.out.holds (i := j) (by rw [HIO.out.size, ← HN.out]; omega)
          obtain ⟨m2, _, _⟩ := holds_cells HIO.out.holds (i := j + 1) (by rw [HIO.out.size, ← HN.out]; omega)
          obtain ⟨e1, he1⟩ : ∃ e1, (d[j]!).2.1 = e1 := ⟨_, rfl⟩
          obtain ⟨e2, he2⟩ : ∃ e2, (d[j + 1]!).1 = e2 := ⟨_, rfl⟩
          rw [he1] at m1
          rw [he2] at m2
          have HE1 := Lib.hid he1
          have HE2 := Lib.hid he2
          clear he1 he2
          by_cases hbad : e2 < e1
          · have tb : decide (e2 < e1) = true := decide_eq_true hbad
            have E := Lib.hid (partE_6 HG.out (fun ha => by
              have := (HIO.out.apart HG.out).2 ha j (by rw [← HN.out]; exact hjk)
              rw [HE1.out, HE2.out] at this; omega))
            have R := Lib.hid (show partsR rs l = [] by unfold partsR; rw [E.out]; rfl)
            clear hbad
            go_wp2
            go_quiet (fail)
            go_wp2
            go_ret2
            exact ⟨_, by rw [E.out]; rfl, by rw [R.out]; exact IRow.nil _, HB.out.trans ((show Below wr.heap.size wr ((wb.drewN q).drewN _) from ⟨hbb.os, hbb.tape, hbb.output, hbb.size, hbb.block⟩).mono hw0)⟩
          · have tb : decide (e2 < e1) = false := decide_eq_false hbad
            have NX := Lib.hid (show ∀ i, i < j + 1 → i + 1 < k → (d[i]!).2.1 ≤ (d[i + 1]!).1 from fun i h1 h2 => by
              rcases Nat.lt_or_ge i j with h | h
              · exact hnx.out i h h2
              · obtain rfl : i = j := by omega
                rw [HE1.out, HE2.out]; omega)
            clear hbad hnx
            go_wp2
            go_quiet (fail)
            go_wp2
            go_roundw
            case rel => exact ⟨j + 1, by omega, by go_num, NX, _, rfl⟩
            case measure => simp [intOf]; omega
        · have tj : decide ((j : Int) + 1 < (k : Int)) = false := decide_eq_false (by omega)
          have NO := Lib.hid (show nextOk d rs.length from fun i hi => hnx.out i (by rw [← HN.out] at hi; omega) (by rw [HN.out]; exact hi))
          have E := Lib.hid (partE_ok HG.out ((HIO.out.apart HG.out).1 NO.out))
          have R := Lib.hid (show partsR rs l = partsL rs l by unfold partsR; rw [if_pos E.out])
          have hwk : IntKind.i64.wrap ((k : Int) + 1) = (k : Int) + 1 := IntWalk.i64_in _ (by omega)
          have MK := HMK.out (wb.drewN q)
          obtain ⟨wc, hwc⟩ : ∃ wc, (wb.drewN q).alloc (.cells (madeCells #[.int .i64 0] (k + 1)) 3) = wc := ⟨_, rfl⟩
          have hmade := World.rowIs_made (wb.drewN q) (.int .i64 0) (k + 1) 3
          rw [hwc] at hmade
          have hbc : Below wb.heap.size wb wc := by rw [← hwc]; exact (show Below wb.heap.size wb (wb.drewN q) from ⟨rfl, rfl, rfl, Nat.le_refl _, fun _ _ => rfl⟩).alloc (Nat.le_refl _) _
          have hsc : wc.heap.size = wb.heap.size + 1 := by rw [← hwc]; simp
          have hG : (wb.drewN q).heap.size = wb.heap.size := rfl
          rw [hG] at hmade MK
          rw [hwc] at MK
          have HCN0 := Lib.hid (counts_any va l wc (HVA.out.below ((HB.out.trans (hbb.mono hw0)).trans (hbc.mono (by have := HB.out.size; omega)))) HLL.out)
          have HMD := Lib.hid hmade
          have HBC := Lib.hid hbc
          clear hnx hmade hwc hbc
          go_wp2_with (first
            | (go_at_call 36; refine HCN0.out.mono ?_; rintro e w' ⟨B2, D, rfl, hB2, hown, hcnt, hb2⟩; have HCN := Lib.hid hcnt; clear hcnt)
            | (at_range; refine wpList_range_own _ rfl _ 79 rfl 39 3 keyed Tryz.underlying79 _ B2 l.length D rfl hown ?_; intro w0 hrg0 hg0 hs0))
          go_frame
          have hs2 := hb2.size
          have hbw0 : Below wb.heap.size wb w0 := ((HBC.out.trans (hb2.mono (by omega))).grown hg0 (by have := HBC.out.size; omega) (fun j e => by cases e))
          have hrow0 : w0.rowIs wb.heap.size 3 (k + 1) (ptV rs (Maps.has D) l) := by
            have h1 := (HMD.out.of_block (hb2.block _ (by omega)))
            have h2 := h1.of_block (hg0.block _ (by omega) (by simp))
            exact h2.congr (fun j _ => by unfold ptV; rw [cntL_start _ _ _ (fun x hx => HCN.out.all x hx)]; rfl)
          go_loopw [11, 12] (fun _ _ wr => ∃ (left : Lit → Bool) (cnt : Nat), wr.ranges Tryz.prog 39 (plainElem Tryz.prog 3) B2 w'.heap.size l.length D left cnt ∧ wr.rowIs wb.heap.size 3 (k + 1) (ptV rs left l) ∧ Hid (∀ kl, left kl = true → Maps.has D kl = true) ∧ Below wb.heap.size wb wr)
            (fun _ _ wr => wr.rangeLeft B2 w'.heap.size)
          case atStart => exact ⟨_, _, hrg0, hrow0, Lib.hid (fun _ h => h), hbw0⟩
          case round =>
            clear hrg0 hg0 hs0 hbw0 hrow0 hown hb2
            obtain ⟨left, cnt, hrg, hrow, hlf, hbr⟩ := hrel
            have HRW := Lib.hid hrow
            clear hrow
            go_wp2_with (at_next; refine wpList_next_ranges _ rfl _ rfl 39 keyed (plainElem Tryz.prog 3) (fun v : Value => v) (Value.int .i64) (fun key kl _ => ⟨key, rfl⟩) (fun v y h => invI h) B2 w'.heap.size l.length D left cnt rfl hrg ?_ ?_)
            · intro hc0 hl0
              have HE := Lib.hid (fun j => cntL_end (gR rs j) left hl0 l)
              clear hc0 hl0
              go_wp2
              go_ret2
              refine ⟨_, by rw [E.out]; rfl, ?_, HB.out.trans ((hbb.trans (hbr.mono (by omega))).mono hw0)⟩
              rw [R.out]
              exact IRow.of_row HRW.out (by rw [partsL_len, HN.out]) (fun i x hx => by
                have hi := (List.getElem?_eq_some_iff.1 hx).1
                rw [partsL_len] at hi
                rw [partsL_at rs l hi] at hx
                cases hx
                unfold ptV
                rw [HE.out])
            · intro key c kl y yp w1 cnt1 hkey hlx hy hat hrg1 hlt hg1 hs1 hen
              obtain ⟨s, hsl, rfl, rfl, rfl⟩ := next_what HCN.out HVA.out.1 hkey (HCN.out.has _ (hlf.out _ hlx)) hy hat
              have hok := HVA.out.1 s hsl
              obtain ⟨⟨k1, k2⟩, k3, k4⟩ := hok
              have ST := Lib.hid (fun j => cntL_step (gR rs j) left (HVA.out.1 s hsl) hlx l HVA.out.1)
              have LF := Lib.hid (show ∀ z, (left z && !z.sameKey (klE s)) = true → Maps.has D z = true from fun z hz => hlf.out z (by simp at hz; exact hz.1))
              have hsz := hbr.size
              have hsz1 := HBC.out.size
              have hb1 : Below wb.heap.size wb w1 := hbr.grown hg1 hbr.size (fun j e => by cases e; omega)
              have hneB : B2 ≠ wb.heap.size := by omega
              have hneR : w'.heap.size ≠ wb.heap.size := by omega
              have row1 : w1.rowIs wb.heap.size 3 (k + 1) (ptV rs left l) := HRW.out.of_block (hg1.block _ (HRW.out.lt) (by simp; omega))
              have hoc := occ_le s l
              have hll := HLL.out
              obtain ⟨f, hf⟩ : ∃ f, fndR rs s.2 = f := ⟨_, rfl⟩
              have hfn : f < k + 1 := by have := fndR_le rs s.2; rw [hf, ← HN.out] at this; omega
              have hfn2 : (f : Int) < (k : Int) + 1 := by omega
              have x2 : IntKind.i64.wrap s.2 = s.2 := IntWalk.i64_in _ (by omega)
              have FD := Lib.hid (fun o : Obj => find_any d k B s.2 (w1.alloc o) (by rw [HIO.out.size, HN.out]) (((HIO.out.below hb1).below ((Below.refl _ w1).alloc (Nat.le_refl _) o)).lt) (((HIO.out.below hb1).below ((Below.refl _ w1).alloc (Nat.le_refl _) o)).holds) (by omega) (by have := HIO.out.mono HG.out NO.out; rw [← HN.out] at this; exact this))
              have FE := Lib.hid (show fndD d k s.2 = (f : Int) by have := HIO.out.find HG.out NO.out s.2; rw [← HN.out, hf] at this; exact this)
              rw [FE.out] at FD
              have HF := Lib.hid hf
              have hlB := hrg1.owns.lt
              have hlR := hrg1.lt
              have hlG := row1.lt
              obtain ⟨S, hS⟩ : ∃ S, cntL (gR rs f) left l = S := ⟨_, rfl⟩
              have hSl : S ≤ l.length := by rw [← hS]; exact cntL_le _ _ _
              obtain ⟨m, hm⟩ : ∃ m, occ s l = m := ⟨_, rfl⟩
              have HA := Lib.hid (fun (W2 : World) (h : Below (w1.alloc (.cells #[.int .i32 s.1, .int .i32 s.2] 39)).heap.size (w1.alloc (.cells #[.int .i32 s.1, .int .i32 s.2] 39)) W2) (i : Nat) (hi : i < w1.heap.size) =>
                ((h.block i (by simp; omega)).trans (Below.heap_alloc w1 _ i hi) : W2.heap[i]? = w1.heap[i]?))
              have HROW := Lib.hid (fun W2 h => (row1.of_block (HA.out W2 h _ hlG) : W2.rowIs wb.heap.size 3 (k + 1) (ptV rs left l)))
              have HRG := Lib.hid (fun W2 h (v : Value) => ranges_block (w' := World.setCell W2 ⟨wb.heap.size, f, none⟩ v) hrg1 ((Below.heap_setCell _ _ _ _ hneB).trans (HA.out W2 h _ hlB)) ((Below.heap_setCell _ _ _ _ hneR).trans (HA.out W2 h _ hlR)))
              have HBW := Lib.hid (fun (W2 : World) (h : Below (w1.alloc (.cells #[.int .i32 s.1, .int .i32 s.2] 39)).heap.size (w1.alloc (.cells #[.int .i32 s.1, .int .i32 s.2] 39)) W2) (v : Value) =>
                ((((hb1.alloc hb1.size _).trans (h.mono (by have := hb1.size; simp; omega))).setCell (p := ⟨wb.heap.size, f, none⟩) (Nat.le_refl _) v) : Below wb.heap.size wb (W2.setCell ⟨wb.heap.size, f, none⟩ v)))
              have HMS := Lib.hid (show cnt1 < wr.rangeLeft B2 w'.heap.size by rw [hrg.left_eq]; exact hlt)
              have hwr : IntKind.i64.wrap ((S : Int) + (m : Int)) = (S : Int) + (m : Int) := IntWalk.i64_in _ (by omega)
              have HPS := Lib.hid (show ptV rs left l f = .int .i64 (S : Int) by unfold ptV; rw [hS])
              have HST := Lib.hid (show ∀ j, ptV rs (fun z => left z && !z.sameKey (klE s)) l j = if j = f then .int .i64 ((S : Int) + (m : Int)) else ptV rs left l j from fun j => by
                unfold ptV
                rw [ST.out j]
                unfold gR at hS ⊢
                rw [hf]
                by_cases e : j = f
                · subst e; rw [if_pos rfl, if_pos (by simp), hS, hm]; simp
                · rw [if_neg e, if_neg (by simp; exact fun h => e h.symm)]; rfl)
              unfold evV at hen
              simp only [evV]
              rw [hm] at hen ⊢
              clear hrg hrg1 hlt hg1 hs1 hkey hlx hy hat hbr hb1 hsl row1 hS hf hm hoc ST
              go_wp2_with (go_at_call 38; refine (FD.out _).mono ?_; rintro e w2 ⟨rfl, hb3⟩; have row2 := HROW.out w2 hb3; have hc0 := row2.cell hfn; rw [HPS.out] at hc0; have hf0 := row2.frozen f; have HRW2 := Lib.hid row2; have HB3 := Lib.hid hb3; clear row2 hb3)
              go_roundw
              case rel => exact ⟨_, cnt1, HRG.out w2 HB3.out _, (HRW2.out.set f _).congr (fun j _ => by rw [HST.out]), LF, HBW.out w2 HB3.out _⟩
              case measure => rw [(HRG.out w2 HB3.out _).left_eq]; exact HMS.out
end Go.Proofs.YtihhgnjkmhdpmaaGreatDoor
