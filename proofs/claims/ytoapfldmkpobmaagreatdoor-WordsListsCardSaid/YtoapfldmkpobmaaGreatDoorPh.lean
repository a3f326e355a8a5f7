/- Layer 1: ParseList at strings that are good, walked. -/
import Derived.Test.YtoapfldmkpobmaaGreatDoorPn
import Derived.Laws.MakeOwn
namespace Go.Proofs.YtoapfldmkpobmaaGreatDoor
open Go.RowKit
/-- n numbers from a on. -/
def upL (a : Int) (n : Nat) : List Int := (List.range n).map fun (i : Nat) => a + (i : Int)
def seqL (x : ByteArray) : List Int := upL (numF x) (numL x - numF x + 1).toNat
theorem upL_len (a : Int) (n : Nat) : (upL a n).length = n := by unfold upL; simp
theorem upL_succ (a : Int) (n : Nat) : upL a (n + 1) = upL a n ++ [a + (n : Int)] := by unfold upL; rw [List.range_succ, List.map_append]; rfl
theorem seq_len (L : List ByteArray) (h : ∀ x ∈ L, numF x ≤ numL x) : ((L.flatMap seqL).length : Int) = manyL L := by
  induction L with
  | nil => rfl
  | cons x r ih =>
    have h1 := h x (by simp)
    have h2 := ih fun y hy => h y (by simp [hy])
    rw [List.flatMap_cons, List.length_append]
    have e : ((seqL x).length : Int) = numL x - numF x + 1 := by unfold seqL; rw [upL_len]; omega
    unfold manyL
    push_cast
    omega
theorem seq_take {L : List ByteArray} {j : Nat} {x : ByteArray} (h : L[j]? = some x) : (L.take (j + 1)).flatMap seqL = (L.take j).flatMap seqL ++ seqL x := by
  rw [List.take_add_one, h, List.flatMap_append]
  simp
theorem seq_le (L : List ByteArray) (j : Nat) : ((L.take j).flatMap seqL).length ≤ (L.flatMap seqL).length := by
  have : L.flatMap seqL = (L.take j).flatMap seqL ++ (L.drop j).flatMap seqL := by rw [← List.flatMap_append, List.take_append_drop]
  rw [this, List.length_append]; omega
theorem info_int : (Tryz.prog.info? 3).map (fun i => (i.zero, i.size, i.bytes)) = some (some (.int .i64 0), 1, 8) := by kernel_rfl
def PlGood (w : World) (L : List ByteArray) (e : Ending) (w' : World) : Prop :=
  Below w.heap.size w w' ∧ ∃ v B, w.heap.size ≤ B ∧ e = .returned (.tuple #[v, .int .i64 0]) ∧ w'.ownsRow B 3 1 v (L.flatMap seqL).length ((L.flatMap seqL).map i64v)
set_option maxHeartbeats 1600000 in
set_option maxRecDepth 100000 in
theorem parse_good (s : ByteArray) (w : World) (hw : LW w) (hs : s.size ≤ 1000000000) (h45 : s.data.toList ≠ [45]) (hE : parseLE s = 0) : Calls Tryz.prog 7 #[.string s] w (PlGood w (commaP s)) := by
  obtain ⟨i0, hi, hz0, hz1, hz2⟩ := info_parts info_i64
  obtain ⟨i2, hy, hy0, hy1, hy2⟩ := info_parts info_int
  have hne : (s.toList == [45]) = false := by
    rw [beq_eq_false_iff_ne]
    intro h; exact h45 (by rw [← h]; exact (toList_data s).symm)
  have RS := readSpans_any s w hw hs
  have hsz := fun x (h : x ∈ commaP s) => Nat.le_trans (commaP_le h) hs
  have hnl := commaP_len s
  by_cases hB : spansB none (commaP s) = false
  · exact absurd hE (by unfold parseLE; rw [if_neg h45, if_pos hB]; decide)
  · replace hB : spansB none (commaP s) = true := by simpa using hB
    have hE2 : lastE (commaP s) = 0 ∧ ¬ 500 < manyL (commaP s) := by
      unfold parseLE at hE
      rw [if_neg h45, if_neg (by rw [hB]; decide)] at hE
      by_cases h0 : lastE (commaP s) = 0
      · rw [if_neg (by rw [h0]; decide)] at hE
        exact ⟨h0, fun h => by rw [if_pos h] at hE; cases hE⟩
      · rw [if_pos h0] at hE; exact absurd hE h0
    clear hE
    generalize commaP s = L at *
    obtain ⟨n, hn⟩ : ∃ n, n = L.length := ⟨_, rfl⟩
    have RS2 : Calls Tryz.prog 19 #[.string s] w fun e w' => Below w.heap.size w w' ∧ ∃ v B, w.heap.size ≤ B ∧ e = .returned (.tuple #[v, .bool true]) ∧ Hid (w'.ownsRow B 51 2 v n (L.flatMap encSp)) := RS.mono fun e w' h => by
      rcases h.2 with h2 | h2
      · rw [hB] at h2; cases h2.1
      · obtain ⟨v, B, q1, q2, q3⟩ := h2.2
        rw [← hn] at q3
        exact ⟨h.1, v, B, q1, q2, Lib.hid q3⟩
    rw [← hn] at hnl
    have HN := Lib.hid hn
    have HSZ := Lib.hid hsz
    obtain ⟨hE3, hM5⟩ := hE2
    have HALL := Lib.hid (spans_all L none hB hE3)
    have HLE : ∀ x ∈ L, numF x ≤ numL x := fun x hx => num_le (HALL.out x hx).1 (HALL.out x hx).2
    have HSL := Lib.hid (seq_len L HLE)
    replace HLE := Lib.hid HLE
    have HM5 := Lib.hid hM5
    clear RS hB h45 hn hsz hE3 hM5
    go_enter Tryz.func7, Tryz.ntmps7
    go_wp2_with (go_at_call 19; refine RS2.mono ?_; rintro e w1 ⟨hb1, v, B, hBB, rfl, hsp⟩; obtain ⟨pa, cp, rfl⟩ := own_shape hsp.out)
    clear RS2 hne
    have hs1 := hb1.size
    go_loopw [6, 7, 9, 10, 11, 12, 13, 30] (fun v6 v7 _ _ _ _ _ i wr => ∃ k : Nat, k ≤ n ∧ i = .int .i64 k ∧ Hid (wr.ownsRow w1.heap.size 2 1 v6 k ((L.take k).map fun y => i64v (numF y))) ∧ Hid (wr.ownsRow w1.heap.size 2 1 v7 k ((L.take k).map fun y => i64v (numL y))) ∧ Hid (Sep v7 v6) ∧ Below w1.heap.size w1 wr) (fun _ _ _ _ _ _ _ i _ => n - (intOf i).toNat)
    case atStart => exact ⟨0, Nat.zero_le _, rfl, Lib.hid (by simpa using World.ownsRow_nil _ _ _ _), Lib.hid (by simpa using World.ownsRow_nil _ _ _ _), Lib.hid (.inl rfl), Below.refl _ _⟩
    case round =>
      obtain ⟨k, hk, rfl, h6, h7, hsep, hb⟩ := hrel
      by_cases hlt : k < n
      · have hltb : decide ((k : Int) < (n : Int)) = true := decide_eq_true (by omega)
        have hkn : (k : Int) < (n : Int) := by omega
        have hk0 : (0 : Int) ≤ (k : Int) := by omega
        obtain ⟨x, hx⟩ : ∃ x, L[k]? = some x := ⟨_, List.getElem?_eq_getElem (by rw [← HN.out]; exact hlt)⟩
        have hxs := HSZ.out x (List.mem_of_getElem? hx)
        obtain ⟨g, cap, e, hgb, hgl, _, hcs⟩ := own_two hsp.out (by omega)
        obtain rfl : pa = some ⟨g, 0, none⟩ := by cases e; rfl
        have hc0 : wr.cell? ⟨g, k * 2, none⟩ = some (.string (spF x)) := by
          have := hcs (k * 2) _ (enc_get hx).1
          rw [Nat.zero_add] at this
          exact (hb.cell (p := ⟨g, k * 2, none⟩) hgl).trans this
        have hc1 : wr.cell? ⟨g, k * 2 + 1, none⟩ = some (.string (spL x)) := by
          have := hcs (k * 2 + 1) _ (enc_get hx).2
          rw [Nat.zero_add] at this
          exact (hb.cell (p := ⟨g, k * 2 + 1, none⟩) hgl).trans this
        obtain ⟨r1, r2⟩ := sp_rng x
        have IF := Lib.hid (fun W (h : Below w.heap.size w W) => int_any (spF x) 0 1000000000 (by decide) (by decide) W (hw.below h) (by omega))
        have IG := Lib.hid (fun W (h : Below w.heap.size w W) => int_any (spL x) 0 1000000000 (by decide) (by decide) W (hw.below h) (by omega))
        have HC0 := Lib.hid ((HALL.out x (List.mem_of_getElem? hx)).2)
        have T6 := Lib.hid (i64v_take (f := numF) hx)
        have T7 := Lib.hid (i64v_take (f := numL) hx)
        have DF := Lib.hid (show numF x = intV (spF x).data.toList 0 1000000000 from rfl)
        have DL := Lib.hid (show numL x = intV (spL x).data.toList 0 1000000000 from rfl)
        have DE := Lib.hid (show errL x = intE (spL x).data.toList 0 1000000000 from rfl)
        rw [← DF.out] at IF
        rw [← DL.out, ← DE.out, HC0.out] at IG
        have hbw := hb1.trans (hb.mono hs1)
        have hb3 : Below w.heap.size w (wr.alloc (.cells #[.string (spF x), .string (spL x)] 51)) := hbw.alloc hbw.size _
        have f0 : (wr.alloc (.cells #[.string (spF x), .string (spL x)] 51)).cell? ⟨wr.heap.size, 0, none⟩ = some (.string (spF x)) := by rw [cell_of_row _ _ _ _ _ _ (heap_alloc_new _ _)]; rfl
        have f1 : (wr.alloc (.cells #[.string (spF x), .string (spL x)] 51)).cell? ⟨wr.heap.size, 1, none⟩ = some (.string (spL x)) := by rw [cell_of_row _ _ _ _ _ _ (heap_alloc_new _ _)]; rfl
        have hb4 : Below wr.heap.size wr (wr.alloc (.cells #[.string (spF x), .string (spL x)] 51)) := (Below.refl _ wr).alloc (Nat.le_refl _) _
        generalize spF x = F at *
        generalize spL x = G at *
        generalize numF x = a at *
        generalize numL x = b at *
        clear DE HC0
        clear hx hcs e
        go_wp2_with (first
          | (go_at_call 11; first
            | ((with_reducible refine (IG.out _ hb3).mono ?_); rintro e wa ⟨rfl, hba⟩
               have d0 := (hba.cell (p := ⟨wr.heap.size, 0, none⟩) (by simp)).trans f0
               have hbA := hb3.trans (hba.mono hb3.size)
               have hbB := hb4.trans (hba.mono hb4.size)
               clear hba f0 f1)
            | ((with_reducible refine (IF.out _ hbA).mono ?_); rintro e wb ⟨rfl, hbb⟩
               have hbD := hbB.trans (hbb.mono hbB.size)
               have o6 := Lib.hid (h6.out.kept (grown_of_below hbD) (own_some h6.out))
               have o7 := Lib.hid (h7.out.kept (grown_of_below hbD) (own_some h7.out))
               have hbE := hb.trans (hbD.mono hb.size)
               have hs5 := hbE.size
               clear hbb d0 hbA hbB hbD))
          | (at_builtin; refine wpList_append_own_at _ rfl _ _ 49 rfl w1.heap.size 2 i0 (.int .i64 0) 1 8 Tryz.underlying49 hi hz0 hz1 hz2 rfl (by decide) _ k _ rfl (o6.out.alloc _) ⟨wb.heap.size, 0, none⟩ 1 1 [i64v a] rfl rfl (cell_one_new _ _ _) (by simp [i64v, Value.oneCell']) (by simp only [maxLen]; omega) (by omega) (by simp; omega) ?_
             intro v6 w6 q6 hgr6 _ hob6
             have z7 := o7.out.alloc (.cells #[.int .i64 a] 2)
             have S1 := Lib.hid (Sep.step hsep.out z7 hob6)
             have p7 := Lib.hid (z7.kept hgr6 hsep.out)
             have P6 := Lib.hid q6
             have hb6 : Below w1.heap.size w1 w6 := (hbE.alloc hs5 _).grown hgr6 (by simp; omega) (fun j e => own_ge o6.out e)
             have hs6 := hb6.size
             clear z7 hob6 q6 hgr6 hbE o6 o7)
          | (at_builtin; refine wpList_append_own_at _ rfl _ _ 49 rfl w1.heap.size 2 i0 (.int .i64 0) 1 8 Tryz.underlying49 hi hz0 hz1 hz2 rfl (by decide) _ k _ rfl (p7.out.alloc _) ⟨w6.heap.size, 0, none⟩ 1 1 [i64v b] rfl rfl (cell_one_new _ _ _) (by simp [i64v, Value.oneCell']) (by simp only [maxLen]; omega) (by omega) (by simp; omega) ?_
             intro v7 w7 q7 hgr7 _ hob7
             have z6 := P6.out.alloc (.cells #[.int .i64 b] 2)
             have S2 := Lib.hid (Sep.step S1.out.symm z6 hob7)
             have p6 := Lib.hid (z6.kept hgr7 S1.out.symm)
             have P7 := Lib.hid q7
             have hb7 : Below w1.heap.size w1 w7 := (hb6.alloc hs6 _).grown hgr7 (by simp; omega) (fun j e => own_ge p7.out e)
             clear z6 hob7 q7 hgr7 hb6 P6 p7)
          )
        go_roundw
        case rel => exact ⟨k + 1, by omega, by go_num, Lib.hid (by rw [← T6.out]; exact p6.out), Lib.hid (by rw [← T7.out]; exact P7.out), Lib.hid S2.out.symm, hb7⟩
        case measure => simp [intOf]; omega
      · obtain rfl : k = n := by omega
        have hltb : decide ((k : Int) < (k : Int)) = false := decide_eq_false (by omega)
        rw [List.take_of_length_le (by rw [HN.out]; exact Nat.le_refl _)] at h6 h7
        obtain ⟨a6, c6, rfl⟩ := own_shape h6.out
        obtain ⟨a7, c7, rfl⟩ := own_shape h7.out
        have hbw := hb1.trans (hb.mono hs1)
        clear hsp
        go_wp2
        clear hltb
        go_loopw [14, 15, 60] (fun m _ i w2 => ∃ j : Nat, j ≤ k ∧ i = .int .i64 j ∧ (∃ M, m = .int .i64 M ∧ Hid (M = manyL (L.take j))) ∧ ∃ d, w2 = wr.drewN d) (fun _ _ i _ => k - (intOf i).toNat)
        case atStart => exact ⟨0, Nat.zero_le _, rfl, ⟨0, rfl, Lib.hid rfl⟩, 0, rfl⟩
        case round =>
          obtain ⟨j, hj, rfl, ⟨M, rfl, hMM⟩, d, rfl⟩ := hrel
          by_cases hjk : j < k
          · have hjb : decide ((j : Int) < (k : Int)) = true := decide_eq_true (by omega)
            have hjn : (j : Int) < (k : Int) := by omega
            have hj0 : (0 : Int) ≤ (j : Int) := by omega
            obtain ⟨x, hx⟩ : ∃ x, L[j]? = some x := ⟨_, List.getElem?_eq_getElem (by rw [← HN.out]; exact hjk)⟩
            obtain ⟨g6, cap6, e6, _, _, hc6⟩ := own_row h6.out (by omega)
            obtain ⟨g7, cap7, e7, _, _, hc7⟩ := own_row h7.out (by omega)
            obtain rfl : a6 = some ⟨g6, 0, none⟩ := by cases e6; rfl
            obtain rfl : a7 = some ⟨g7, 0, none⟩ := by cases e7; rfl
            have y6 : wr.cell? ⟨g6, j, none⟩ = some (.int .i64 (numF x)) := by
              have := hc6 j _ (by rw [List.getElem?_map, hx]; rfl)
              rwa [Nat.zero_add] at this
            have y7 : wr.cell? ⟨g7, j, none⟩ = some (.int .i64 (numL x)) := by
              have := hc7 j _ (by rw [List.getElem?_map, hx]; rfl)
              rwa [Nat.zero_add] at this
            have hT := manyL_take hx
            have hR := manyL_rng (L.take j)
            rw [← hMM.out] at hT hR
            rw [List.length_take] at hR
            have n1 : (0 : Int) ≤ numF x ∧ numF x ≤ 1000000000 := intV_rng _
            have n2 : (0 : Int) ≤ numL x ∧ numL x ≤ 1000000000 := intV_rng _
            generalize numF x = a at *
            generalize numL x = b at *
            have hmn : ((min j L.length : Nat) : Int) ≤ 1000000002 := by omega
            have v1 : IntKind.i64.wrap (b - a) = b - a := IntWalk.i64_in _ (by omega)
            have v2 : IntKind.i64.wrap (b - a + 1) = b - a + 1 := IntWalk.i64_in _ (by omega)
            have v3 : IntKind.i64.wrap (M + (b - a + 1)) = M + (b - a + 1) := IntWalk.i64_in _ (by omega)
            have HT := Lib.hid hT
            clear hT hR hx hc6 hc7 e6 e7
            go_wp2
            go_quiet (fail)
            go_wp2
            go_roundw
            case rel => exact ⟨j + 1, by omega, by go_num, ⟨_, rfl, Lib.hid HT.out.symm⟩, _, rfl⟩
            case measure => simp [intOf]; omega
          · obtain rfl : j = k := by omega
            have hjb : decide ((j : Int) < (j : Int)) = false := decide_eq_false (by omega)
            have hMv : M = manyL L := by
              have := hMM.out
              rwa [List.take_of_length_le (by rw [HN.out]; exact Nat.le_refl _)] at this
            obtain ⟨m, hm⟩ : ∃ m, m = (L.flatMap seqL).length := ⟨_, rfl⟩
            have hMm : M = (m : Int) := by rw [hMv, ← HSL.out, hm]
            have hm500 : m ≤ 500 := by have := HM5.out; rw [← hMv] at this; omega
            have hm5 : decide ((500 : Int) < M) = false := decide_eq_false (by omega)
            have hm6 : ¬ (500 : Int) < M := by omega
            have HMM := Lib.hid hm
            clear hMM hMv hm
            subst hMm
            obtain ⟨wm, hmk, hom, hgm⟩ := run_make_own (P := Tryz.prog) (wr.drewN d) wr.heap.size 22 3 i2 _ 1 Tryz.underlying22 hy hy0 hy1 .i64 .i64 m (by rw [hy2]; omega) (by simp only [maxLen]; omega) (Nat.le_refl _)
            have HOM : Hid (wm.ownsRow wr.heap.size 3 1 (.slice (some ⟨wr.heap.size, 0, none⟩) 0 m) 0 []) := Lib.hid hom
            have hbm : Below wr.heap.size wr wm := (below_drewN (Below.refl _ wr) d).grown hgm (Nat.le_refl _) (fun j e => by cases e)
            clear hom hgm
            go_wp2
            clear hmk hm5 hm6 hjb
            obtain ⟨wz, rfl⟩ : ∃ wz, wz = wr := ⟨_, rfl⟩
            go_loopw [16, 17, 18, 82] (fun v _ _ i w2 => ∃ t : Nat, t ≤ j ∧ i = .int .i64 t ∧ Hid (w2.ownsRow wz.heap.size 3 1 v ((L.take t).flatMap seqL).length (((L.take t).flatMap seqL).map i64v)) ∧ Below wz.heap.size wz w2) (fun _ _ _ i _ => j - (intOf i).toNat)
            case atStart => exact ⟨0, Nat.zero_le _, rfl, HOM, hbm⟩
            case round =>
              clear HOM hbm wm
              obtain ⟨t, ht, rfl, hv, hb2⟩ := hrel
              obtain ⟨w2, rfl⟩ : ∃ w2, w2 = wr := ⟨_, rfl⟩
              by_cases htj : t < j
              · have htb : decide ((t : Int) < (j : Int)) = true := decide_eq_true (by omega)
                have htn : (t : Int) < (j : Int) := by omega
                have ht0 : (0 : Int) ≤ (t : Int) := by omega
                obtain ⟨x, hx⟩ : ∃ x, L[t]? = some x := ⟨_, List.getElem?_eq_getElem (by rw [← HN.out]; exact htj)⟩
                obtain ⟨g6, cap6, e6, lt6, _, hc6⟩ := own_row h6.out (by omega)
                obtain ⟨g7, cap7, e7, lt7, _, hc7⟩ := own_row h7.out (by omega)
                obtain rfl : a6 = some ⟨g6, 0, none⟩ := by cases e6; rfl
                obtain rfl : a7 = some ⟨g7, 0, none⟩ := by cases e7; rfl
                have y6 : w2.cell? ⟨g6, t, none⟩ = some (.int .i64 (numF x)) := by
                  have := hc6 t _ (by rw [List.getElem?_map, hx]; rfl)
                  rw [Nat.zero_add] at this
                  exact (hb2.cell (p := ⟨g6, t, none⟩) lt6).trans this
                have Y7 := Lib.hid (show ∀ W, Below wz.heap.size wz W → W.cell? ⟨g7, t, none⟩ = some (.int .i64 (numL x)) from fun W h => by
                  have := hc7 t _ (by rw [List.getElem?_map, hx]; rfl)
                  rw [Nat.zero_add] at this
                  exact (h.cell (p := ⟨g7, t, none⟩) lt7).trans this)
                have n1 : (0 : Int) ≤ numF x ∧ numF x ≤ 1000000000 := intV_rng _
                have n2 : (0 : Int) ≤ numL x ∧ numL x ≤ 1000000000 := intV_rng _
                have hab := HLE.out x (List.mem_of_getElem? hx)
                have hst := seq_take hx
                have hl5 := seq_le L (t + 1)
                rw [← HMM.out, hst, List.length_append] at hl5
                have hsx : seqL x = upL (numF x) (numL x - numF x + 1).toNat := rfl
                generalize seqL x = sx at *
                generalize numF x = a at *
                generalize numL x = b at *
                obtain ⟨T, hT⟩ : ∃ T : Nat, (T : Int) = b - a + 1 := ⟨(b - a + 1).toNat, by omega⟩
                rw [show (b - a + 1).toNat = T by omega] at hsx
                subst hsx
                rw [upL_len] at hl5
                have HST := Lib.hid hst
                generalize hpre : (L.take t).flatMap seqL = pre at *
                clear hst hx hc6 hc7 e6 e7 hpre
                go_wp2
                go_loopw [16, 18] (fun v z w3 => ∃ q : Nat, q ≤ T ∧ z = .int .i64 (a + (q : Int)) ∧ Hid (w3.ownsRow wz.heap.size 3 1 v (pre.length + q) ((pre ++ upL a q).map i64v)) ∧ Below wz.heap.size wz w3) (fun _ z _ => (b + 1 - intOf z).toNat)
                case atStart => exact ⟨0, Nat.zero_le _, by simp, Lib.hid (by simpa [upL] using hv.out), hb2⟩
                case round =>
                  clear hv y6
                  obtain ⟨q, hq, rfl, hv, hb3⟩ := hrel
                  obtain ⟨w3, rfl⟩ : ∃ w3, w3 = wr := ⟨_, rfl⟩
                  have y7 := Y7.out _ hb3
                  have hs3 := hb3.size
                  by_cases hqT : q < T
                  · have hqb : decide (a + (q : Int) ≤ b) = true := decide_eq_true (by omega)
                    have hqc : a + (q : Int) ≤ b := by omega
                    have hwq : IntKind.i64.wrap (a + (q : Int) + 1) = a + (q : Int) + 1 := IntWalk.i64_in _ (by omega)
                    go_wp2_with (at_builtin; refine wpList_append_own _ rfl _ _ 22 rfl wz.heap.size 3 i2 (.int .i64 0) 1 8 Tryz.underlying22 hy hy0 hy1 hy2 rfl (by decide) _ (pre.length + q) _ rfl (hv.out.alloc _) ⟨_, 0, none⟩ 1 1 [i64v (a + (q : Int))] rfl rfl (cell_one_new _ _ _) (by simp [i64v, Value.oneCell']) (by simp only [maxLen]; omega) (by omega) (by simp; omega) ?_; intro v4 w4 q4 hgr4 _; have HO4 := Lib.hid q4; have hb4 : Below wz.heap.size wz w4 := (hb3.alloc hs3 _).grown hgr4 (by simp; omega) (fun j e => own_ge hv.out e); clear q4 hgr4)
                    go_roundw
                    case rel => exact ⟨q + 1, by omega, by go_num, Lib.hid (by rw [upL_succ, ← List.append_assoc, List.map_append]; exact HO4.out), hb4⟩
                    case measure => simp only [intOf]; omega
                  · obtain rfl : q = T := by omega
                    have hqb : decide (a + (q : Int) ≤ b) = false := decide_eq_false (by omega)
                    have hqc : ¬ a + (q : Int) ≤ b := by omega
                    go_wp2
                    go_roundw
                    case rel => exact ⟨t + 1, by omega, by go_num, Lib.hid (by rw [HST.out, List.length_append, upL_len]; exact hv.out), hb3⟩
                    case measure => simp [intOf]; omega
              · obtain rfl : t = j := by omega
                have htb : decide ((t : Int) < (t : Int)) = false := decide_eq_false (by omega)
                have HF := hv.out
                rw [List.take_of_length_le (by rw [HN.out]; exact Nat.le_refl _)] at HF
                have HF := Lib.hid HF
                go_wp2
                go_ret2
                exact ⟨hbw.trans (hb2.mono hbw.size), _, _, hbw.size, rfl, HF.out⟩
end Go.Proofs.YtoapfldmkpobmaaGreatDoor
