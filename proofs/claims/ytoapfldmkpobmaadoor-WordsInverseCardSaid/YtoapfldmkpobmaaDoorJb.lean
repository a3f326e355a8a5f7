/- Layer 1: Join of words, walked. -/
import Derived.Test.YtoapfldmkpobmaaDoorJa
namespace Go.Proofs.YtoapfldmkpobmaaDoor
open Go.RowKit
theorem cast_raw {w : World} {B n n' : Nat} {e : TypeId} {v : Value} {xs ys : List Value} (h : w.ownsRow B e 1 v n xs) (hn : n = n') (hx : xs = ys) : w.ownsRow B e 1 v n' ys := by
  subst hn; subst hx; exact h
set_option maxHeartbeats 800000 in
set_option maxRecDepth 100000 in
theorem join_any (v : Value) (xs : List Item) (w : World) (hw : LW w) (hv : FSl w v xs) (hl : xs.length ≤ 1000000) : Calls Tryd.prog 8 #[v] w (JPost w xs) := by
  obtain ⟨i0, hi, hz0, hz1, hz2⟩ := info_parts info_u8
  have HFS := Lib.hid hv
  obtain ⟨p, c, rfl, hv⟩ := hv
  obtain ⟨n, hn⟩ : ∃ n, n = xs.length := ⟨_, rfl⟩
  rw [← hn] at hl ⊢ HFS
  have HV := Lib.hid hv
  have HN := Lib.hid hn
  clear hv hn
  by_cases h64 : 64 < n
  · have hb : decide ((64 : Int) < (n : Int)) = true := decide_eq_true (by omega)
    have HE := Lib.hid (show joinE xs = 3 by unfold joinE; rw [← HN.out, if_pos h64])
    clear h64
    go_enter Tryd.func8, Tryd.ntmps8
    go_wp2
    go_ret2
    exact jPost_bad HE.out (by decide) (Below.refl _ _)
  have hb : decide ((64 : Int) < (n : Int)) = false := decide_eq_false (by omega)
  go_enter Tryd.func8, Tryd.ntmps8
  go_wp2
  clear hb
  go_loopw [14] (fun i wr => ∃ k : Nat, k ≤ n ∧ i = .int .i64 k ∧ Hid (∀ x ∈ xs.take k, x.s.length ≤ 2000) ∧ Below w.heap.size w wr) (fun i _ => n - (intOf i).toNat)
  case atStart => exact ⟨0, Nat.zero_le _, rfl, Lib.hid (by simp), Below.refl _ _⟩
  case round =>
    obtain ⟨k, hk, rfl, hd, hbel⟩ := hrel
    by_cases hlt : k < n
    · obtain ⟨x, hx⟩ : ∃ x, xs[k]? = some x := ⟨_, List.getElem?_eq_getElem (by rw [← HN.out]; exact hlt)⟩
      have hltb : decide ((k : Int) < (n : Int)) = true := decide_eq_true (by omega)
      obtain ⟨b, o, rfl, z0, z1⟩ := HV.out k x hx
      have y0 := (hbel.cell (p := ⟨b, o + k * 2, none⟩) (cell_in z0)).trans z0
      have y1 := (hbel.cell (p := ⟨b, o + k * 2 + 1, none⟩) (cell_in z1)).trans z1
      obtain ⟨S, hS⟩ : ∃ S : ByteArray, S = ⟨x.s.toArray⟩ := ⟨_, rfl⟩
      rw [← hS] at y0
      have hSs : S.size = x.s.length := by rw [hS, size_mk]
      have HX := Lib.hid hx
      have HSS := Lib.hid hSs
      have hb2 : ∀ ob, Below w.heap.size w (wr.alloc ob) := fun ob => hbel.alloc hbel.size ob
      have HB2 := Lib.hid hb2
      clear hx z0 z1 hS hSs hb2
      by_cases h2 : 2000 < S.size
      · have ht : decide ((2000 : Int) < (S.size : Int)) = true := decide_eq_true (by omega)
        have HE := Lib.hid (show joinE xs = 3 by
          have : longs xs = true := by
            unfold longs; rw [List.any_eq_true]; exact ⟨x, List.mem_of_getElem? HX.out, by rw [← HSS.out]; simpa using h2⟩
          unfold joinE; rw [← HN.out, if_neg h64, this]; rfl)
        clear h2
        go_wp2
        go_ret2
        exact jPost_bad HE.out (by decide) (HB2.out _)
      · have ht : decide ((2000 : Int) < (S.size : Int)) = false := decide_eq_false (by omega)
        have H2 := Lib.hid h2
        clear h2
        go_wp2
        go_roundw
        case rel =>
          refine ⟨k + 1, by omega, by go_num, Lib.hid ?_, HB2.out _⟩
          intro y hy
          rw [List.take_add_one, HX.out] at hy
          rcases List.mem_append.1 hy with hy | hy
          · exact hd.out y hy
          · simp at hy; rw [hy]; have := H2.out; rw [HSS.out] at this; omega
        case measure => simp [intOf]; omega
    · have hltb : decide ((k : Int) < (n : Int)) = false := decide_eq_false (by omega)
      have hsh : ∀ x ∈ xs, x.s.length ≤ 2000 := by
        have h := hd.out
        rwa [List.take_of_length_le (by rw [← HN.out]; omega)] at h
      have HSH := Lib.hid hsh
      have HLO := Lib.hid (show longs xs = false by
        unfold longs; rw [List.any_eq_false]; intro x hx; have := hsh x hx; simp; omega)
      clear hsh hd
      go_wp2
      clear hltb hlt hk
      go_loopw [6, 25] (fun v i wx => ∃ k : Nat, k ≤ n ∧ i = .int .i64 k ∧ wx.ownsRow w.heap.size 5 1 v (jT (xs.take k)).length ((jT (xs.take k)).map u8v) ∧ Below w.heap.size w wx ∧ Hid (∀ x ∈ xs.take k, jBad x = false) ∧ (jT (xs.take k)).length ≤ 8003 * k) (fun _ i _ => n - (intOf i).toNat)
      case atStart => exact ⟨0, Nat.zero_le _, rfl, World.ownsRow_nil _ _ _ _, hbel, Lib.hid (by simp), by simp [jT, Lib.join_nil]⟩
      case round =>
        clear hbel
        obtain ⟨k, hk, rfl, hown, hbel, hgd, hjl⟩ := hrel
        by_cases hlt : k < n
        · obtain ⟨x, hx⟩ : ∃ x, xs[k]? = some x := ⟨_, List.getElem?_eq_getElem (by rw [← HN.out]; exact hlt)⟩
          have hltb : decide ((k : Int) < (n : Int)) = true := decide_eq_true (by omega)
          obtain ⟨b, o, rfl, z0, z1⟩ := HV.out k x hx
          have y0 := (hbel.cell (p := ⟨b, o + k * 2, none⟩) (cell_in z0)).trans z0
          have y1 := (hbel.cell (p := ⟨b, o + k * 2 + 1, none⟩) (cell_in z1)).trans z1
          obtain ⟨S, hS⟩ : ∃ S : ByteArray, S = ⟨x.s.toArray⟩ := ⟨_, rfl⟩
          obtain ⟨q, hq⟩ : ∃ q, q = x.q := ⟨_, rfl⟩
          obtain ⟨Y, hY⟩ : ∃ Y : ByteArray, Y = ⟨(jS x).toArray⟩ := ⟨_, rfl⟩
          have hxs : x.s.length ≤ 2000 := HSH.out x (List.mem_of_getElem? hx)
          have WR := Lib.hid (fun w' (h : Below w.heap.size w w') => write_any x w' (hw.below h) (by omega))
          rw [← hS] at y0
          rw [← hq] at y1
          rw [← hS, ← hq, ← hY] at WR
          have hYs : Y.size = (jS x).length := by rw [hY, size_mk]
          have hYc : Lib.strCells Y = (jS x).map u8v := by rw [hY]; rfl
          have hYl : Y.size ≤ 8002 := by rw [hYs]; have := jS_len x; omega
          have BT := Lib.hid (fun w' => bareText_any S w' (by rw [hS, size_mk]; omega))
          rw [show S.data.toList = x.s by rw [hS]] at BT
          have HTK := Lib.hid (show xs.take (k + 1) = xs.take k ++ [x] by rw [List.take_add_one, hx]; rfl)
          have HBAD := Lib.hid (show jBad x = true → joinE xs = 6 from fun h => by
            have hb : xs.any jBad = true := by rw [List.any_eq_true]; exact ⟨x, List.mem_of_getElem? hx, h⟩
            unfold joinE; rw [← HN.out, if_neg h64, HLO.out, hb]; rfl)
          have HJB := Lib.hid (show jBad x = (!q && !bareAll x.s) by unfold jBad; rw [hq])
          have HGD := Lib.hid (show jBad x = false → ∀ y ∈ xs.take (k + 1), jBad y = false from fun h y hy => by
            rw [HTK.out] at hy
            rcases List.mem_append.1 hy with hy | hy
            · exact hgd.out y hy
            · simp at hy; rw [hy]; exact h)
          have HYS := Lib.hid hYs
          have HYC := Lib.hid hYc
          have HO := Lib.hid hown
          have HB := Lib.hid hbel
          have HJL := Lib.hid hjl
          have hpl : (jT (xs.take k)).length ≤ 8003 * 64 := by omega
          generalize bareAll x.s = ba at BT HJB
          clear hx z0 z1 hS hq hY hYs hYc hown hw
          rcases Nat.eq_zero_or_pos k with hk0 | hk0
          · have ht : decide ((0 : Int) < (k : Int)) = false := decide_eq_false (by omega)
            have ht2 : decide (0 < k) = false := decide_eq_false (by omega)
            have ht3 : ¬ 0 < k := by omega
            have HJT := Lib.hid (show jT (xs.take (k + 1)) = jS x by rw [HTK.out, hk0]; exact jT_zero x)
            have HJ0 := Lib.hid (show jT (xs.take k) = [] by rw [hk0]; rfl)
            clear hk0
            cases q
            · cases ba
              · skip
                have HE := Lib.hid (HBAD.out (by rw [HJB.out]; rfl))
                have hbx : Below w.heap.size w (wr.alloc (.cells #[.string S, .bool false] 46)) := hbel.alloc hbel.size _
                go_wp2_with (go_at_call 19; refine (BT.out _).mono ?_; rintro e w' ⟨rfl, rfl⟩)
                go_ret2
                exact jPost_bad HE.out (by decide) hbx
              · skip
                have hbx := fun ob => hbel.alloc hbel.size ob
                have HBX := Lib.hid hbx
                clear hbx
                go_wp2_with (first
                  | (go_at_call 19; refine (BT.out _).mono ?_; rintro e w' ⟨rfl, rfl⟩)
                  | (go_at_call 20; refine (WR.out _ (HBX.out _)).mono ?_; rintro e w2 ⟨rfl, hb2⟩; have hown2 := Lib.hid (own_below (HO.out.alloc _) hb2); have hbw := (HBX.out _).trans (hb2.mono (HBX.out _).size))
                  | (at_builtin; refine Lib.wpList_append_own_string _ rfl _ _ 50 9 rfl w.heap.size 5 i0 Tryd.underlying50 Tryd.underlying9 hi hz0 hz1 hz2 _ _ _ rfl (hown2.out) Y rfl ?d3 ?d4 ?d5 ?_)
                  )
                case d3 => simp [maxLen]; omega
                case d4 => omega
                case d5 => exact hbw.size
                intro v3 w3 hown3 hgr3 _
                have hfin := hbw.grown hgr3 hbw.size (fun j e => own_ge HO.out e)
                go_wp2
                go_roundw
                case rel =>
                  refine ⟨k + 1, by omega, by go_num, ?_, hfin, Lib.hid (HGD.out (by rw [HJB.out]; rfl)), ?_⟩
                  · rw [HJT.out]
                    exact cast_raw hown3 (by rw [HJ0.out, HYS.out]; simp) (by rw [HJ0.out, HYC.out]; simp)
                  · rw [HJT.out, ← HYS.out]; omega
                case measure => simp [intOf]; omega
            · skip
              have hbx := fun ob => hbel.alloc hbel.size ob
              have HBX := Lib.hid hbx
              clear hbx
              go_wp2_with (first
                | (go_at_call 19; refine (BT.out _).mono ?_; rintro e w' ⟨rfl, rfl⟩)
                | (go_at_call 20; refine (WR.out _ (HBX.out _)).mono ?_; rintro e w2 ⟨rfl, hb2⟩; have hown2 := Lib.hid (own_below (HO.out.alloc _) hb2); have hbw := (HBX.out _).trans (hb2.mono (HBX.out _).size))
                | (at_builtin; refine Lib.wpList_append_own_string _ rfl _ _ 50 9 rfl w.heap.size 5 i0 Tryd.underlying50 Tryd.underlying9 hi hz0 hz1 hz2 _ _ _ rfl (hown2.out) Y rfl ?d3 ?d4 ?d5 ?_)
                )
              case d3 => simp [maxLen]; omega
              case d4 => omega
              case d5 => exact hbw.size
              intro v3 w3 hown3 hgr3 _
              have hfin := hbw.grown hgr3 hbw.size (fun j e => own_ge HO.out e)
              go_wp2
              go_roundw
              case rel =>
                refine ⟨k + 1, by omega, by go_num, ?_, hfin, Lib.hid (HGD.out (by rw [HJB.out]; rfl)), ?_⟩
                · rw [HJT.out]
                  exact cast_raw hown3 (by rw [HJ0.out, HYS.out]; simp) (by rw [HJ0.out, HYC.out]; simp)
                · rw [HJT.out, ← HYS.out]; omega
              case measure => simp [intOf]; omega
          · have ht : decide ((0 : Int) < (k : Int)) = true := decide_eq_true (by omega)
            have ht2 : decide (0 < k) = true := decide_eq_true (by omega)
            have ht3 : 0 < k := by omega
            have HJT := Lib.hid (show jT (xs.take (k + 1)) = jT (xs.take k) ++ (32 :: jS x) by
              rw [HTK.out]; exact jT_snoc _ _ (by intro e; have := congrArg List.length e; rw [List.length_take, ← HN.out] at this; simp at this; omega))
            clear hk0
            cases q
            · cases ba
              · skip
                have HE := Lib.hid (HBAD.out (by rw [HJB.out]; rfl))
                have hbx : Below w.heap.size w (wr.alloc (.cells #[.string S, .bool false] 46)) := hbel.alloc hbel.size _
                go_wp2_with (go_at_call 19; refine (BT.out _).mono ?_; rintro e w' ⟨rfl, rfl⟩)
                go_ret2
                exact jPost_bad HE.out (by decide) hbx
              · skip
                have hbx := fun ob => hbel.alloc hbel.size ob
                have HBX := Lib.hid hbx
                clear hbx
                go_wp2_with (first
                  | (go_at_call 19; refine (BT.out _).mono ?_; rintro e w' ⟨rfl, rfl⟩)
                  | (at_builtin; refine wpList_append_own _ rfl _ _ 50 rfl _ 5 i0 (.int .u8 0) 1 1 Tryd.underlying50 hi hz0 hz1 hz2 rfl (by decide) _ _ _ rfl ((HO.out.alloc _).alloc _) ⟨wr.heap.size + 1, 0, none⟩ ([32]).length ([32]).length (([32]).map u8v) rfl rfl (new_cells_at _ (wr.heap.size + 1) (by simp) [32]) (u8v_one _) ?c3 ?c4 ?c5 ?_)
                  )
                case c3 => simp [maxLen]; omega
                case c4 => simp; omega
                case c5 => simp; have := hbel.size; omega
                intro v1 w1 hown1 hgr1 _
                have hs1 := hgr1.size
                simp at hs1
                have hbxw : w1.heap[wr.heap.size]? = some (.cells #[.string S, .bool false] 46) := by
                  rw [hgr1.block wr.heap.size (by simp; omega) (fun e => by have := (HO.out.lt _ e.symm).2; omega), Below.heap_alloc _ _ _ (by simp)]
                  exact World.alloc_heap_new _ _
                have d0 := (two_of hbxw).1
                have d1 := (two_of hbxw).2
                have hb1 : Below w.heap.size w w1 := (((HBX.out _).alloc (HBX.out _).size _)).grown hgr1 (by simp; have := hbel.size; omega) (fun j e => own_ge HO.out e)
                have HO1 := Lib.hid hown1
                clear hown1 hgr1 hbxw
                go_wp2_with (first
                  | (go_at_call 20; refine (WR.out _ hb1).mono ?_; rintro e w2 ⟨rfl, hb2⟩; have hown2 := Lib.hid (own_below HO1.out hb2); have hbw := hb1.trans (hb2.mono hb1.size))
                  | (at_builtin; refine Lib.wpList_append_own_string _ rfl _ _ 50 9 rfl w.heap.size 5 i0 Tryd.underlying50 Tryd.underlying9 hi hz0 hz1 hz2 _ _ _ rfl (hown2.out) Y rfl ?d3 ?d4 ?d5 ?_)
                  )
                case d3 => simp [maxLen]; omega
                case d4 => omega
                case d5 => exact hbw.size
                intro v3 w3 hown3 hgr3 _
                have hfin := hbw.grown hgr3 hbw.size (fun j e => own_ge HO1.out e)
                go_wp2
                go_roundw
                case rel =>
                  refine ⟨k + 1, by omega, by go_num, ?_, hfin, Lib.hid (HGD.out (by rw [HJB.out]; rfl)), ?_⟩
                  · rw [HJT.out]
                    exact cast_raw hown3 (by rw [HYS.out]; simp; omega) (by rw [HYC.out]; simp)
                  · rw [HJT.out, List.length_append, List.length_cons, ← HYS.out]; omega
                case measure => simp [intOf]; omega
            · skip
              have hbx := fun ob => hbel.alloc hbel.size ob
              have HBX := Lib.hid hbx
              clear hbx
              go_wp2_with (first
                | (go_at_call 19; refine (BT.out _).mono ?_; rintro e w' ⟨rfl, rfl⟩)
                | (at_builtin; refine wpList_append_own _ rfl _ _ 50 rfl _ 5 i0 (.int .u8 0) 1 1 Tryd.underlying50 hi hz0 hz1 hz2 rfl (by decide) _ _ _ rfl ((HO.out.alloc _).alloc _) ⟨wr.heap.size + 1, 0, none⟩ ([32]).length ([32]).length (([32]).map u8v) rfl rfl (new_cells_at _ (wr.heap.size + 1) (by simp) [32]) (u8v_one _) ?c3 ?c4 ?c5 ?_)
                )
              case c3 => simp [maxLen]; omega
              case c4 => simp; omega
              case c5 => simp; have := hbel.size; omega
              intro v1 w1 hown1 hgr1 _
              have hs1 := hgr1.size
              simp at hs1
              have hbxw : w1.heap[wr.heap.size]? = some (.cells #[.string S, .bool true] 46) := by
                rw [hgr1.block wr.heap.size (by simp; omega) (fun e => by have := (HO.out.lt _ e.symm).2; omega), Below.heap_alloc _ _ _ (by simp)]
                exact World.alloc_heap_new _ _
              have d0 := (two_of hbxw).1
              have d1 := (two_of hbxw).2
              have hb1 : Below w.heap.size w w1 := (((HBX.out _).alloc (HBX.out _).size _)).grown hgr1 (by simp; have := hbel.size; omega) (fun j e => own_ge HO.out e)
              have HO1 := Lib.hid hown1
              clear hown1 hgr1 hbxw
              go_wp2_with (first
                | (go_at_call 20; refine (WR.out _ hb1).mono ?_; rintro e w2 ⟨rfl, hb2⟩; have hown2 := Lib.hid (own_below HO1.out hb2); have hbw := hb1.trans (hb2.mono hb1.size))
                | (at_builtin; refine Lib.wpList_append_own_string _ rfl _ _ 50 9 rfl w.heap.size 5 i0 Tryd.underlying50 Tryd.underlying9 hi hz0 hz1 hz2 _ _ _ rfl (hown2.out) Y rfl ?d3 ?d4 ?d5 ?_)
                )
              case d3 => simp [maxLen]; omega
              case d4 => omega
              case d5 => exact hbw.size
              intro v3 w3 hown3 hgr3 _
              have hfin := hbw.grown hgr3 hbw.size (fun j e => own_ge HO1.out e)
              go_wp2
              go_roundw
              case rel =>
                refine ⟨k + 1, by omega, by go_num, ?_, hfin, Lib.hid (HGD.out (by rw [HJB.out]; rfl)), ?_⟩
                · rw [HJT.out]
                  exact cast_raw hown3 (by rw [HYS.out]; simp; omega) (by rw [HYC.out]; simp)
                · rw [HJT.out, List.length_append, List.length_cons, ← HYS.out]; omega
              case measure => simp [intOf]; omega
        · have hltb : decide ((k : Int) < (n : Int)) = false := decide_eq_false (by omega)
          obtain rfl : k = n := by omega
          rw [List.take_of_length_le (by rw [HN.out]; exact Nat.le_refl _)] at hown hjl hgd
          have HEE := Lib.hid (show joinE xs = if 8192 < (jT xs).length then 3 else 0 by
            have hb : xs.any jBad = false := by rw [List.any_eq_false]; intro x hx; rw [hgd.out x hx]; decide
            unfold joinE; rw [← HN.out, if_neg h64, HLO.out, hb]; rfl)
          have hcv := conv_own hown
          obtain ⟨q1, c1, rfl⟩ : ∃ q1 c1, u6 = .slice q1 (jT xs).length c1 := by
            rcases hown.2 with ⟨e, h0⟩ | ⟨g, cap, cur, e, _⟩
            · exact ⟨none, 0, by rw [e, h0]⟩
            · exact ⟨_, _, e⟩
          obtain ⟨m, hm⟩ : ∃ m, m = (jT xs).length := ⟨_, rfl⟩
          have HM := Lib.hid hm
          rw [← hm] at hcv HEE
          rw [← hm]
          clear hown hjl hm
          by_cases h8 : 8192 < m
          · have ht : decide ((8192 : Int) < (m : Int)) = true := decide_eq_true (by omega)
            have HE := Lib.hid (HEE.out.trans (if_pos h8))
            clear h8
            go_wp2
            go_ret2
            exact jPost_bad HE.out (by decide) hbel
          · have ht : decide ((8192 : Int) < (m : Int)) = false := decide_eq_false (by omega)
            have HE := Lib.hid (HEE.out.trans (if_neg h8))
            clear h8
            go_wp2
            go_ret2
            refine ⟨?_, hbel⟩
            rw [HE.out, show joinR xs = jT xs by unfold joinR; rw [HE.out, if_pos rfl]]
            rfl
end Go.Proofs.YtoapfldmkpobmaaDoor
