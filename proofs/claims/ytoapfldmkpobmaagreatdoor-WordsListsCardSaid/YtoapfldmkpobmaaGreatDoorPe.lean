/- Layer 1: ParseList's readSpans, walked. -/
import Derived.Test.YtoapfldmkpobmaaGreatDoorPc
import Derived.Test.YtoapfldmkpobmaaGreatDoorPd
import Derived.Deep.QuietTactic
import Derived.BigQuiet
namespace Go.Proofs.YtoapfldmkpobmaaGreatDoor
open Go.RowKit
theorem own_shape {w : World} {base : Nat} {e : TypeId} {size : Nat} {v : Value} {n : Nat} {xs : List Value} (h : w.ownsRow base e size v n xs) : ∃ a c, v = .slice a n c := by
  rcases h.2 with ⟨rfl, h0⟩ | ⟨g, cap, cur, rfl, _⟩
  · exact ⟨none, 0, by rw [h0]⟩
  · exact ⟨_, _, rfl⟩
section
variable {P : Program} {a : Act} {w : World} {Q : Exit → Act → World → Prop}
/-- Whatever order is drawn: one walk in the text's order, over all worlds that are as w below n. -/
theorem wp_region_below {id : Nat} {l : List Oper} {n : Nat} (_ : n ≤ w.heap.size) (hm : P.follows .mixedOrders = true) (hB : Region.lexB .any l.toArray = true)
    (h : wpQuiet P l.toArray (fun w' => Below n w w') (fun a' => ∀ w', Below n w w' → Q .normal a' w') l a) : (Code.region id l.toArray true).wp P Q a w :=
  wp_region_quiet (C := fun w' => Below n w w') hm hB ⟨rfl, rfl, rfl, Nat.le_refl _, fun _ _ => rfl⟩ (by simpa using h)
theorem quiet_str {o : Oper} {K : Act → Prop} {n : Nat} (x : Operand) (ho : o.op = .load 9 x) (p : Addr) (hx : a.eval x = .pointer (some p)) (c : ByteArray) (hc : w.cell? p = some (.string c)) (hB : p.block < n)
    (h : K (a.put o.dst (.string c))) : o.quiet Tryz.prog a (fun w' => Below n w w') K :=
  ⟨_, fun w' hw => by
    have hc' := (hw.cell hB).trans hc
    unfold Oper.quietAt execOp
    rw [ho]
    simp only [hx]
    go_simp, h⟩
theorem Calls.quiet_below {f : FuncId} {args : Array Value} {n : Nat} {w' : World} {v : Value} {R : Ending → World → Prop} (h : Calls P f args w' R) (hw : Below n w w') (hn : n ≤ w.heap.size)
    (hR : ∀ e w'', R e w'' → e = .returned v ∧ Below w'.heap.size w' w'') : Calls P f args w' fun e w'' => e = .returned v ∧ Below n w w'' :=
  h.mono fun e w'' hh => by
    obtain ⟨he, hb⟩ := hR e w'' hh
    exact ⟨he, hw.trans (hb.mono (Nat.le_trans hn hw.size))⟩
end
theorem splitc_any (s : ByteArray) (w : World) (hw : LW w) (hs : s.size ≤ 1000000000) : Calls Tryz.prog 35 #[.string s, .string ⟨#[44]⟩] w fun e w' =>
    e = .returned (.slice (some ⟨w.heap.size, 0, none⟩) (commaP s).length (commaP s).length) ∧ w' = w.alloc (.cells ((commaP s).map Value.string).toArray 9) := by
  obtain ⟨m, hm⟩ := hw.ml
  refine (Tryz.strings_Split s ⟨#[44]⟩ m w (by omega) hm (by decide)).mono ?_
  rintro e w' ⟨rfl, rfl⟩
  refine ⟨?_, rfl⟩
  unfold commaP
  rw [Lib.splitB_all _ (by decide) _ _ _ rfl]
def RSp (w : World) (L : List ByteArray) (e : Ending) (w' : World) : Prop :=
  Below w.heap.size w w' ∧ ((spansB none L = false ∧ e = .returned (.tuple #[.slice none 0 0, .bool false])) ∨ (spansB none L = true ∧ ∃ v B, w.heap.size ≤ B ∧ e = .returned (.tuple #[v, .bool true]) ∧ w'.ownsRow B 51 2 v L.length (L.flatMap encSp)))
theorem rsp_bad {w w' : World} {L : List ByteArray} (h : spansB none L = false) (hb : Below w.heap.size w w') : RSp w L (.returned (.tuple #[.slice none 0 0, .bool false])) w' := ⟨hb, .inl ⟨h, rfl⟩⟩
set_option maxHeartbeats 1600000 in
set_option maxRecDepth 100000 in
theorem readSpans_any (s : ByteArray) (w : World) (hw : LW w) (hs : s.size ≤ 1000000000) : Calls Tryz.prog 19 #[.string s] w (RSp w (commaP s)) := by
  obtain ⟨i0, hi, hz0, hz1, hz2⟩ := info_parts info_span
  have SP := splitc_any s w hw hs
  have hsz := fun x (h : x ∈ commaP s) => Nat.le_trans (commaP_le h) hs
  have hnl := commaP_len s
  generalize commaP s = L at *
  obtain ⟨n, hn⟩ : ∃ n, n = L.length := ⟨_, rfl⟩
  rw [← hn] at hnl SP
  have SP := Lib.hid SP
  have HN := Lib.hid hn
  have HSZ := Lib.hid hsz
  clear hn hsz
  go_enter Tryz.func19, Tryz.ntmps19
  go_wp2_with (go_at_call 35; refine SP.out.mono ?_; rintro e w1 ⟨rfl, rfl⟩)
  obtain ⟨w1, hw1⟩ : ∃ w1, w1 = w.alloc (.cells (L.map Value.string).toArray 9) := ⟨_, rfl⟩
  rw [← hw1]
  have hb1 : Below w.heap.size w w1 := by rw [hw1]; exact (Below.refl _ w).alloc (Nat.le_refl _) _
  have hc1 : w1.heap[w.heap.size]? = some (.cells (L.map Value.string).toArray 9) := by rw [hw1]; exact World.alloc_heap_new w _
  have hs1 : w1.heap.size = w.heap.size + 1 := by rw [hw1]; simp
  have hq1 := hw.below hb1
  have HC1 := Lib.hid hc1
  have HS1 := Lib.hid hs1
  have hs2 := hb1.size
  clear SP hw1 hw hc1 hs1
  go_loopw [4, 6, 7, 8, 9, 13] (fun v _ _ _ _ i wr => ∃ k : Nat, k ≤ n ∧ i = .int .i64 k ∧ Hid (spansB none L = spansB (prevSp L k) (L.drop k)) ∧ Hid (wr.ownsRow w1.heap.size 51 2 v k ((L.take k).flatMap encSp)) ∧ Below w1.heap.size w1 wr) (fun _ _ _ _ _ i _ => n - (intOf i).toNat)
  case atStart => exact ⟨0, Nat.zero_le _, rfl, Lib.hid rfl, Lib.hid (by simpa using World.ownsRow_nil _ _ _ _), Below.refl _ _⟩
  case round =>
    obtain ⟨k, hk, rfl, hS, hown, hb⟩ := hrel
    by_cases hlt : k < n
    · have hltb : decide ((k : Int) < (n : Int)) = true := decide_eq_true (by omega)
      have hkn : (k : Int) < (n : Int) := by omega
      have hk0 : (0 : Int) ≤ (k : Int) := by omega
      obtain ⟨x, hx⟩ : ∃ x, L[k]? = some x := ⟨_, List.getElem?_eq_getElem (by rw [← HN.out]; exact hlt)⟩
      have hxs := HSZ.out x (List.mem_of_getElem? hx)
      have hcell : wr.cell? ⟨w.heap.size, k, none⟩ = some (.string x) := by
        refine (hb.cell (p := ⟨w.heap.size, k, none⟩) (by rw [HS1.out]; exact Nat.lt_succ_self _)).trans ?_
        rw [cell_of_row _ _ _ _ _ _ HC1.out]; simp [hx]
      have HAT := Lib.hid (spansB_at hx)
      have HE := Lib.hid (enc_take hx)
      have RD := Lib.hid (readSpan_any x wr (hq1.below hb) (by omega))
      have HX := Lib.hid hx
      have HFL : (spF x).size ≤ x.size ∧ (spL x).size ≤ x.size := by
        obtain ⟨l1, l2⟩ := cut_le x.data.toList [45]
        rw [length_data] at l1 l2
        have f1 : (spF x).size ≤ x.size := by unfold spF; rw [size_mk]; exact l1
        refine ⟨f1, ?_⟩
        unfold spL
        split
        · rw [size_mk]; exact l2
        · exact f1
      obtain ⟨q, hq⟩ : ∃ q, spB x = q := ⟨_, rfl⟩
      have HQ := Lib.hid hq
      rw [hq] at RD
      obtain ⟨F, hF⟩ : ∃ F, spF x = F := ⟨_, rfl⟩
      obtain ⟨G, hG⟩ : ∃ G, spL x = G := ⟨_, rfl⟩
      have HF := Lib.hid hF
      have HG := Lib.hid hG
      rw [hF, hG] at RD
      clear hx hq hF hG
      cases q
      · have HB := Lib.hid (show spansB none L = false by rw [hS.out, HAT.out, HQ.out]; rfl)
        clear hS HAT hown HE
        go_wp2_with (go_at_call 36; refine RD.out.mono ?_; rintro e w2 ⟨rfl, hb2⟩)
        go_ret2
        have hw2 := (hb1.trans (hb.mono hb1.size)).trans (hb2.mono (Nat.le_trans hb1.size hb.size))
        refine rsp_bad HB.out ?_
        exact hw2.alloc hw2.size _
      · obtain ⟨pa, cp, rfl⟩ := own_shape hown.out
        have SU := Lib.hid (fun y (hy : y.size ≤ 4000000000) W => successor_any y W hy)
        have HS := Lib.hid hS.out
        clear hS
        by_cases hk1 : k = 0
        · have b5 : decide ((0 : Int) < (k : Int)) = false := decide_eq_false (by omega)
          have b6 : ¬ 0 < k := by omega
          have HN2 := Lib.hid (show spansB none L = spansB (prevSp L (k + 1)) (L.drop (k + 1)) by
            rw [HS.out, HAT.out, HQ.out]; unfold prevSp; rw [if_pos hk1]; simp)
          clear hk1
          go_wp2_with (go_at_call 36; refine RD.out.mono ?_; rintro e w2 ⟨rfl, hb2⟩)
          obtain ⟨w3, hw3⟩ : ∃ w3, w3 = w2.alloc (.cells #[.string F, .string G] 51) := ⟨_, rfl⟩
          rw [← hw3]
          obtain ⟨B, hBw⟩ : ∃ B, B = w2.heap.size := ⟨_, rfl⟩
          have hB3 : B < w3.heap.size := by rw [hBw, hw3]; simp
          have f0 : w3.cell? ⟨B, 0, none⟩ = some (.string F) := by rw [hw3, hBw, cell_of_row _ _ _ _ _ _ (heap_alloc_new _ _)]; rfl
          have f1 : w3.cell? ⟨B, 1, none⟩ = some (.string G) := by rw [hw3, hBw, cell_of_row _ _ _ _ _ _ (heap_alloc_new _ _)]; rfl
          rw [← hBw]
          have hb23 : Below wr.heap.size wr w3 := by rw [hw3]; exact hb2.alloc hb2.size _
          have hg3 := hb23.size
          clear hw3 hBw hb2 w2
          have AT := Lib.hid (fun W (h : Below w3.heap.size w3 W) => And.intro ((h.cell (p := ⟨B, 0, none⟩) hB3).trans f0) (And.intro ((h.cell (p := ⟨B, 1, none⟩) hB3).trans f1) (And.intro (hown.out.kept (grown_of_below (hb23.trans (h.mono hb23.size))) (own_some hown.out)) (hb.trans ((hb23.trans (h.mono hb23.size)).mono hb.size)))))
          refine wp_region_below (w := w3) (Nat.le_refl _) (by kernel_rfl) (by kernel_rfl) ?_
          repeat (first
            | go_big_quiet_skip
            | (go_big_quiet_want; (first
                | ((fail); simp only [Act.put, List.setIfInBounds_toArray, List.set_cons_succ, List.set_cons_zero]; go_big_quiet_on)
                | (go_big_quiet_op; (first
                    | go_big_quiet_on
                    | (refine ⟨_, fun _ _ => rfl, ?_⟩; go_big_quiet_on)
                    | (apply Exists.intro; refine ⟨fun w9 hw9 => ?_, ?_⟩; (focus (fail)); go_big_quiet_on))))))
          refine wpQuiet_nil ?_
          intro w5 hb5
          obtain ⟨d0, d1, ho5, hb15⟩ := AT.out w5 hb5
          have HO5 := Lib.hid ho5
          have hs5 := hb15.size
          clear ho5 hb5 AT f0 f1 hB3 hb23 hg3
          go_wp2_with (at_builtin; refine wpList_append_own _ rfl _ _ 46 rfl w1.heap.size 51 i0 (.agg #[.string ⟨#[]⟩, .string ⟨#[]⟩]) 2 32 Tryz.underlying46 hi hz0 hz1 hz2 rfl (by decide) _ k _ rfl (HO5.out.alloc _) ⟨w5.heap.size, 0, none⟩ 1 1 [.string F, .string G] rfl rfl ?c2 (two_one _ _ rfl rfl) ?c3 ?c4 ?c5 ?_)
          case c2 => exact cell_two_new w5 (.string F) (.string G) 51
          case c3 => simp [maxLen]; omega
          case c4 => omega
          case c5 => simp; omega
          intro v' w6 hown6 hgr hnil6
          have HO6 := Lib.hid hown6
          have HB6 := Lib.hid (show Below w1.heap.size w1 w6 from (hb15.alloc hb15.size _).grown hgr (by rw [World.size_alloc]; omega) (fun j e => own_ge HO5.out e))
          clear hown6 hgr hnil6
          go_wp2
          go_roundw
          case rel => exact ⟨k + 1, by omega, by go_num, HN2, Lib.hid (by rw [← HE.out]; unfold encSp; rw [HF.out, HG.out]; exact HO6.out), HB6.out⟩
          case measure => simp [intOf]; omega
        · obtain ⟨j, hj⟩ : ∃ j, j + 1 = k := ⟨k - 1, by omega⟩
          obtain ⟨g, cap, e, hgb, hgl, _, hcs⟩ := own_two hown.out (by omega)
          obtain rfl : pa = some ⟨g, 0, none⟩ := by cases e; rfl
          obtain ⟨y, hy⟩ : ∃ y, L[j]? = some y := ⟨_, List.getElem?_eq_getElem (by rw [← HN.out]; omega)⟩
          have hys := HSZ.out y (List.mem_of_getElem? hy)
          have hcy : wr.cell? ⟨g, j * 2 + 1, none⟩ = some (.string (spL y)) := by
            have := hcs (j * 2 + 1) _ (enc_get (L := L.take k) (k := j) (by rw [List.getElem?_take_of_lt (by omega)]; exact hy)).2
            rwa [Nat.zero_add] at this
          have hyl : (spL y).size ≤ 1000000000 := by
            obtain ⟨l1, l2⟩ := cut_le y.data.toList [45]
            rw [length_data] at l1 l2
            have f1 : (spF y).size ≤ y.size := by unfold spF; rw [size_mk]; exact l1
            have f2 : (spL y).size ≤ y.size := by
              unfold spL
              split
              · rw [size_mk]; exact l2
              · exact f1
            omega
          have HN2 := Lib.hid (show spansB none L = (lowB (sucS (spL y)) F && spansB (prevSp L (k + 1)) (L.drop (k + 1))) by
            rw [HS.out, HAT.out, HQ.out, HF.out]
            have : prevSp L k = some (spL y) := by
              unfold prevSp
              rw [if_neg hk1, List.getD_eq_getElem?_getD, show k - 1 = j by omega, hy]; rfl
            rw [this]; simp)
          have SUY := Lib.hid (fun W => SU.out (spL y) (by omega) W)
          have LOY := Lib.hid (fun W => lower_any (sucS (spL y)) F W)
          unfold SucPost at SUY
          have b5 : decide ((0 : Int) < (k : Int)) = true := decide_eq_true (by omega)
          have b6 : 0 < k := by omega
          have hw4 : IntKind.i64.wrap ((k : Int) - 1) = (j : Int) := by rw [IntWalk.i64_in _ (by omega)]; omega
          have j0 : (0 : Int) ≤ (j : Int) := by omega
          have j1 : (j : Int) < (k : Int) := by omega
          generalize sucS (spL y) = z at *
          generalize spL y = y2 at *
          clear hk1 hj hy hcs e hys
          obtain ⟨q, hq⟩ : ∃ q, lowB z F = q := ⟨_, rfl⟩
          rw [hq] at LOY HN2
          clear hq
          cases q
          · have HB := Lib.hid (show spansB none L = false by rw [HN2.out]; rfl)
            go_wp2_with (go_at_call 36; refine RD.out.mono ?_; rintro e w2 ⟨rfl, hb2⟩)
            obtain ⟨w3, hw3⟩ : ∃ w3, w3 = w2.alloc (.cells #[.string F, .string G] 51) := ⟨_, rfl⟩
            rw [← hw3]
            obtain ⟨B, hBw⟩ : ∃ B, B = w2.heap.size := ⟨_, rfl⟩
            have hB3 : B < w3.heap.size := by rw [hBw, hw3]; simp
            have f0 : w3.cell? ⟨B, 0, none⟩ = some (.string F) := by rw [hw3, hBw, cell_of_row _ _ _ _ _ _ (heap_alloc_new _ _)]; rfl
            have f1 : w3.cell? ⟨B, 1, none⟩ = some (.string G) := by rw [hw3, hBw, cell_of_row _ _ _ _ _ _ (heap_alloc_new _ _)]; rfl
            rw [← hBw]
            have hb23 : Below wr.heap.size wr w3 := by rw [hw3]; exact hb2.alloc hb2.size _
            have hg3 := hb23.size
            clear hw3 hBw hb2 w2
            have AT := Lib.hid (fun W (h : Below w3.heap.size w3 W) => And.intro ((h.cell (p := ⟨B, 0, none⟩) hB3).trans f0) (And.intro ((h.cell (p := ⟨B, 1, none⟩) hB3).trans f1) (And.intro (hown.out.kept (grown_of_below (hb23.trans (h.mono hb23.size))) (own_some hown.out)) (hb.trans ((hb23.trans (h.mono hb23.size)).mono hb.size)))))
            refine wp_region_below (w := w3) (Nat.le_refl _) (by kernel_rfl) (by kernel_rfl) ?_
            repeat (first
              | go_big_quiet_skip
              | (go_big_quiet_want; (first
                  | (((first | refine quiet_str _ rfl _ rfl _ ((hb23.cell (p := ⟨g, j * 2 + 1, none⟩) hgl).trans hcy) (Nat.lt_of_lt_of_le hgl hg3) ?_ | refine quiet_str _ rfl _ rfl _ f0 hB3 ?_)); simp only [Act.put, List.setIfInBounds_toArray, List.set_cons_succ, List.set_cons_zero]; go_big_quiet_on)
                  | (go_big_quiet_op; (first
                      | go_big_quiet_on
                      | (refine ⟨_, fun _ _ => rfl, ?_⟩; go_big_quiet_on)
                      | (apply Exists.intro; refine ⟨fun w9 hw9 => ?_, ?_⟩; (focus ((first | (go_at_call 38; exact Calls.quiet_below (SUY.out _) hw9 (Nat.le_refl _) (fun _ _ h => h)) | (go_at_call 37; exact Calls.quiet_below (LOY.out _) hw9 (Nat.le_refl _) (fun _ _ h => ⟨h.1, by rw [← h.2]; exact Below.refl _ _⟩))))); go_big_quiet_on))))))
            refine wpQuiet_nil ?_
            intro w5 hb5
            obtain ⟨d0, d1, ho5, hb15⟩ := AT.out w5 hb5
            have HO5 := Lib.hid ho5
            have hs5 := hb15.size
            clear ho5 hb5 AT f0 f1 hB3 hb23 hg3
            go_wp2
            go_ret2
            exact rsp_bad HB.out (hb1.trans (hb15.mono hb1.size))
          · replace HN2 := Lib.hid (show spansB none L = spansB (prevSp L (k + 1)) (L.drop (k + 1)) by rw [HN2.out]; simp)
            go_wp2_with (go_at_call 36; refine RD.out.mono ?_; rintro e w2 ⟨rfl, hb2⟩)
            obtain ⟨w3, hw3⟩ : ∃ w3, w3 = w2.alloc (.cells #[.string F, .string G] 51) := ⟨_, rfl⟩
            rw [← hw3]
            obtain ⟨B, hBw⟩ : ∃ B, B = w2.heap.size := ⟨_, rfl⟩
            have hB3 : B < w3.heap.size := by rw [hBw, hw3]; simp
            have f0 : w3.cell? ⟨B, 0, none⟩ = some (.string F) := by rw [hw3, hBw, cell_of_row _ _ _ _ _ _ (heap_alloc_new _ _)]; rfl
            have f1 : w3.cell? ⟨B, 1, none⟩ = some (.string G) := by rw [hw3, hBw, cell_of_row _ _ _ _ _ _ (heap_alloc_new _ _)]; rfl
            rw [← hBw]
            have hb23 : Below wr.heap.size wr w3 := by rw [hw3]; exact hb2.alloc hb2.size _
            have hg3 := hb23.size
            clear hw3 hBw hb2 w2
            have AT := Lib.hid (fun W (h : Below w3.heap.size w3 W) => And.intro ((h.cell (p := ⟨B, 0, none⟩) hB3).trans f0) (And.intro ((h.cell (p := ⟨B, 1, none⟩) hB3).trans f1) (And.intro (hown.out.kept (grown_of_below (hb23.trans (h.mono hb23.size))) (own_some hown.out)) (hb.trans ((hb23.trans (h.mono hb23.size)).mono hb.size)))))
            refine wp_region_below (w := w3) (Nat.le_refl _) (by kernel_rfl) (by kernel_rfl) ?_
            repeat (first
              | go_big_quiet_skip
              | (go_big_quiet_want; (first
                  | (((first | refine quiet_str _ rfl _ rfl _ ((hb23.cell (p := ⟨g, j * 2 + 1, none⟩) hgl).trans hcy) (Nat.lt_of_lt_of_le hgl hg3) ?_ | refine quiet_str _ rfl _ rfl _ f0 hB3 ?_)); simp only [Act.put, List.setIfInBounds_toArray, List.set_cons_succ, List.set_cons_zero]; go_big_quiet_on)
                  | (go_big_quiet_op; (first
                      | go_big_quiet_on
                      | (refine ⟨_, fun _ _ => rfl, ?_⟩; go_big_quiet_on)
                      | (apply Exists.intro; refine ⟨fun w9 hw9 => ?_, ?_⟩; (focus ((first | (go_at_call 38; exact Calls.quiet_below (SUY.out _) hw9 (Nat.le_refl _) (fun _ _ h => h)) | (go_at_call 37; exact Calls.quiet_below (LOY.out _) hw9 (Nat.le_refl _) (fun _ _ h => ⟨h.1, by rw [← h.2]; exact Below.refl _ _⟩))))); go_big_quiet_on))))))
            refine wpQuiet_nil ?_
            intro w5 hb5
            obtain ⟨d0, d1, ho5, hb15⟩ := AT.out w5 hb5
            have HO5 := Lib.hid ho5
            have hs5 := hb15.size
            clear ho5 hb5 AT f0 f1 hB3 hb23 hg3
            go_wp2_with (at_builtin; refine wpList_append_own _ rfl _ _ 46 rfl w1.heap.size 51 i0 (.agg #[.string ⟨#[]⟩, .string ⟨#[]⟩]) 2 32 Tryz.underlying46 hi hz0 hz1 hz2 rfl (by decide) _ k _ rfl (HO5.out.alloc _) ⟨w5.heap.size, 0, none⟩ 1 1 [.string F, .string G] rfl rfl ?c2 (two_one _ _ rfl rfl) ?c3 ?c4 ?c5 ?_)
            case c2 => exact cell_two_new w5 (.string F) (.string G) 51
            case c3 => simp [maxLen]; omega
            case c4 => omega
            case c5 => simp; omega
            intro v' w6 hown6 hgr hnil6
            have HO6 := Lib.hid hown6
            have HB6 := Lib.hid (show Below w1.heap.size w1 w6 from (hb15.alloc hb15.size _).grown hgr (by rw [World.size_alloc]; omega) (fun j e => own_ge HO5.out e))
            clear hown6 hgr hnil6
            go_wp2
            go_roundw
            case rel => exact ⟨k + 1, by omega, by go_num, HN2, Lib.hid (by rw [← HE.out]; unfold encSp; rw [HF.out, HG.out]; exact HO6.out), HB6.out⟩
            case measure => simp [intOf]; omega
    · obtain rfl : k = n := by omega
      have hltb : decide ((k : Int) < (k : Int)) = false := decide_eq_false (by omega)
      have HB := Lib.hid (show spansB none L = true by rw [hS.out, List.drop_of_length_le (by rw [HN.out]; exact Nat.le_refl _)]; rfl)
      have HO := Lib.hid (show wr.ownsRow w1.heap.size 51 2 u4 L.length (L.flatMap encSp) by
        have := hown.out
        rw [List.take_of_length_le (by rw [HN.out]; exact Nat.le_refl _)] at this
        rw [← HN.out]; exact this)
      clear hS hown
      go_wp2
      go_ret2
      exact ⟨hb1.trans (hb.mono hb1.size), .inr ⟨HB.out, _, _, hb1.size, rfl, HO.out⟩⟩
end Go.Proofs.YtoapfldmkpobmaaGreatDoor
