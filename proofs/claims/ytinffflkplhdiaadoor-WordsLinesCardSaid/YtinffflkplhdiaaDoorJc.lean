/- Layer 1: Join of the reference. -/
import Derived.Test.YtinffflkplhdiaaDoorJb
namespace Go.Proofs.YtinffflkplhdiaaDoor
open Go.RowKit
theorem jT_len (xs : List Item) (h : ∀ x ∈ xs, x.s.length ≤ 2000) : (jT xs).length ≤ 8003 * xs.length := by
  have hl : Lib.lens (xs.map jS) ≤ 8002 * xs.length := by
    induction xs with
    | nil => simp [Lib.lens]
    | cons x r ih =>
      have h1 := jS_len x
      have h2 := h x (by simp)
      have h3 := ih (fun y hy => h y (by simp [hy]))
      simp [Lib.lens] at h3 ⊢; omega
  unfold jT
  cases xs with
  | nil => simp [Lib.join_nil]
  | cons x r =>
    rw [List.map_cons, Lib.join_length]
    simp at hl ⊢; omega
set_option maxHeartbeats 800000 in
set_option maxRecDepth 100000 in
theorem rjoin_any (v : Value) (xs : List Item) (w : World) (hv : FSl w v xs) (hl : xs.length ≤ 1000000) : Calls Tryd.prog 27 #[v] w (JPost w xs) := by
  obtain ⟨p, c, rfl, hv⟩ := hv
  obtain ⟨n, hn⟩ : ∃ n, n = xs.length := ⟨_, rfl⟩
  rw [← hn] at hl ⊢
  have HV := Lib.hid hv
  have HN := Lib.hid hn
  clear hv hn
  by_cases h64 : 64 < n
  · have hb : decide ((64 : Int) < (n : Int)) = true := decide_eq_true (by omega)
    have HE := Lib.hid (show joinE xs = 3 by unfold joinE; rw [← HN.out, if_pos h64])
    clear h64
    go_enter Tryd.func27, Tryd.ntmps27
    go_wp2
    go_ret2
    exact jPost_bad HE.out (by decide) (Below.refl _ _)
  have hb : decide ((64 : Int) < (n : Int)) = false := decide_eq_false (by omega)
  go_enter Tryd.func27, Tryd.ntmps27
  go_wp2
  clear hb
  go_loop [4] (fun i => ∃ k : Nat, k ≤ n ∧ i = .int .i64 k ∧ Hid (∀ x ∈ xs.take k, x.s.length ≤ 2000)) (fun i => n - (intOf i).toNat)
  case atStart => exact ⟨0, Nat.zero_le _, rfl, Lib.hid (by simp)⟩
  case round =>
    obtain ⟨k, hk, rfl, hd⟩ := hrel
    by_cases hlt : k < n
    · obtain ⟨x, hx⟩ : ∃ x, xs[k]? = some x := ⟨_, List.getElem?_eq_getElem (by rw [← HN.out]; exact hlt)⟩
      have hltb : decide ((k : Int) < (n : Int)) = true := decide_eq_true (by omega)
      obtain ⟨b, o, rfl, y0, y1⟩ := HV.out k x hx
      obtain ⟨S, hS⟩ : ∃ S : ByteArray, S = ⟨x.s.toArray⟩ := ⟨_, rfl⟩
      rw [← hS] at y0
      have hSs : S.size = x.s.length := by rw [hS, size_mk]
      have HX := Lib.hid hx
      have HSS := Lib.hid hSs
      clear hx hS hSs
      by_cases h2 : 2000 < S.size
      · have ht : decide ((2000 : Int) < (S.size : Int)) = true := decide_eq_true (by omega)
        have HE := Lib.hid (show joinE xs = 3 by
          have : longs xs = true := by
            unfold longs; rw [List.any_eq_true]; exact ⟨x, List.mem_of_getElem? HX.out, by rw [← HSS.out]; simpa using h2⟩
          unfold joinE; rw [← HN.out, if_neg h64, this]; rfl)
        clear h2
        go_wp2
        go_ret2
        exact jPost_bad HE.out (by decide) (Below.refl _ _)
      · have ht : decide ((2000 : Int) < (S.size : Int)) = false := decide_eq_false (by omega)
        have H2 := Lib.hid h2
        clear h2
        go_wp2
        go_round
        case rel =>
          refine ⟨k + 1, by omega, by go_num, Lib.hid ?_⟩
          intro y hy
          rw [List.take_add_one, HX.out] at hy
          rcases List.mem_append.1 hy with hy | hy
          · exact hd.out y hy
          · simp at hy; rw [hy]; have := H2.out; rw [HSS.out] at this; omega
        case measure => simp [intOf]; omega
    · have hltb : decide ((k : Int) < (n : Int)) = false := decide_eq_false (by omega)
      have hsh : ∀ x ∈ xs, x.s.length ≤ 2000 := by
        have h := hd.out
        rwa [List.take_of_length_le (by rw [← HN.out]; omega)] at h
      have HSH := Lib.hid hsh
      have HLO := Lib.hid (show longs xs = false by
        unfold longs; rw [List.any_eq_false]; intro x hx; have := hsh x hx; simp; omega)
      clear hsh hd
      go_wp2
      clear hltb hlt hk
      go_loopw [5, 6] (fun v i wx => ∃ (k : Nat) (P : ByteArray), k ≤ n ∧ i = .int .i64 k ∧ v = .string P ∧ Hid (P = ⟨(jT (xs.take k)).toArray⟩) ∧ Below w.heap.size w wx ∧ Hid (∀ x ∈ xs.take k, jBad x = false)) (fun _ i _ => n - (intOf i).toNat)
      case atStart => exact ⟨0, ⟨#[]⟩, Nat.zero_le _, rfl, rfl, Lib.hid rfl, Below.refl _ _, Lib.hid (by simp)⟩
      case round =>
        obtain ⟨k, P, hk, rfl, rfl, HP, hbel, hgd⟩ := hrel
        have hPl : P.size ≤ 8003 * n := by
          rw [HP.out, size_mk]
          exact Nat.le_trans (jT_len _ (fun x hx => HSH.out x (List.mem_of_mem_take hx))) (by rw [List.length_take]; omega)
        by_cases hlt : k < n
        · obtain ⟨x, hx⟩ : ∃ x, xs[k]? = some x := ⟨_, List.getElem?_eq_getElem (by rw [← HN.out]; exact hlt)⟩
          have hltb : decide ((k : Int) < (n : Int)) = true := decide_eq_true (by omega)
          obtain ⟨b, o, rfl, z0, z1⟩ := HV.out k x hx
          have y0 := (hbel.cell (p := ⟨b, o + k * 2, none⟩) (cell_in z0)).trans z0
          have y1 := (hbel.cell (p := ⟨b, o + k * 2 + 1, none⟩) (cell_in z1)).trans z1
          obtain ⟨S, hS⟩ : ∃ S : ByteArray, S = ⟨x.s.toArray⟩ := ⟨_, rfl⟩
          obtain ⟨q, hq⟩ : ∃ q, q = x.q := ⟨_, rfl⟩
          obtain ⟨Y, hY⟩ : ∃ Y : ByteArray, Y = ⟨(quoteL x.s).toArray⟩ := ⟨_, rfl⟩
          have hxs : x.s.length ≤ 2000 := HSH.out x (List.mem_of_getElem? hx)
          rw [← hS] at y0
          rw [← hq] at y1
          have hSs : S.size ≤ 2000 := by rw [hS, size_mk]; exact hxs
          have hYl : Y.size ≤ 8002 := by
            rw [hY, size_mk]; have := escAll_le x.s; unfold quoteL; simp; omega
          have BT := Lib.hid (fun w' => rbare_any S w' (by omega))
          have RQ := Lib.hid (fun w' => rquote_any S w' (by omega))
          rw [show S.data.toList = x.s by rw [hS]] at BT RQ
          rw [← hY] at RQ
          have HTK := Lib.hid (show xs.take (k + 1) = xs.take k ++ [x] by rw [List.take_add_one, hx]; rfl)
          have HBAD := Lib.hid (show jBad x = true → joinE xs = 6 from fun h => by
            have hb : xs.any jBad = true := by rw [List.any_eq_true]; exact ⟨x, List.mem_of_getElem? hx, h⟩
            unfold joinE; rw [← HN.out, if_neg h64, HLO.out, hb]; rfl)
          have HJB := Lib.hid (show jBad x = (!q && !bareAll x.s) by unfold jBad; rw [hq])
          have HGD := Lib.hid (show jBad x = false → ∀ y ∈ xs.take (k + 1), jBad y = false from fun h y hy => by
            rw [HTK.out] at hy
            rcases List.mem_append.1 hy with hy | hy
            · exact hgd.out y hy
            · simp at hy; rw [hy]; exact h)
          have HJS := Lib.hid (show (⟨(jS x).toArray⟩ : ByteArray) = if q then Y else S by
            unfold jS; rw [← hq, hY, hS]; cases q <;> rfl)
          have HB := Lib.hid hbel
          generalize bareAll x.s = ba at BT HJB
          clear hx z0 z1 hS hq hY hbel
          rcases Nat.eq_zero_or_pos k with hk0 | hk0
          · have ht : decide ((0 : Int) < (k : Int)) = false := decide_eq_false (by omega)
            have ht3 : ¬ 0 < k := by omega
            have HJT := Lib.hid (show (⟨(jT (xs.take (k + 1))).toArray⟩ : ByteArray) = P ++ ⟨(jS x).toArray⟩ by
              rw [HTK.out, HP.out, hk0, str_app]; simp [jT, Lib.join_nil, Lib.join_one])
            clear hk0
            cases q
            · cases ba
              · skip
                have HE := Lib.hid (HBAD.out (by rw [HJB.out]; rfl))
                go_wp2_with (first
                  | (go_at_call 45; refine (BT.out _).mono ?_; rintro e w' ⟨rfl, rfl⟩)
                  | (go_at_call 21; refine (RQ.out _).mono ?_; rintro e w2 ⟨rfl, hb2⟩; have hbel := Lib.hid (HB.out.trans (hb2.mono HB.out.size)))
                  )
                go_ret2
                exact jPost_bad HE.out (by decide) HB.out
              · skip
                go_wp2_with (first
                  | (go_at_call 45; refine (BT.out _).mono ?_; rintro e w' ⟨rfl, rfl⟩)
                  | (go_at_call 21; refine (RQ.out _).mono ?_; rintro e w2 ⟨rfl, hb2⟩; have hbel := Lib.hid (HB.out.trans (hb2.mono HB.out.size)))
                  )
                go_roundw
                case rel => exact ⟨k + 1, P ++ S, by omega, by go_num, rfl, Lib.hid (by rw [HJT.out, HJS.out]; rfl), HB.out, Lib.hid (HGD.out (by rw [HJB.out]; rfl))⟩
                case measure => simp [intOf]; omega
            · skip
              go_wp2_with (first
                | (go_at_call 45; refine (BT.out _).mono ?_; rintro e w' ⟨rfl, rfl⟩)
                | (go_at_call 21; refine (RQ.out _).mono ?_; rintro e w2 ⟨rfl, hb2⟩; have hbel := Lib.hid (HB.out.trans (hb2.mono HB.out.size)))
                )
              go_roundw
              case rel => exact ⟨k + 1, P ++ Y, by omega, by go_num, rfl, Lib.hid (by rw [HJT.out, HJS.out]; rfl), hbel.out, Lib.hid (HGD.out (by rw [HJB.out]; rfl))⟩
              case measure => simp [intOf]; omega
          · have ht : decide ((0 : Int) < (k : Int)) = true := decide_eq_true (by omega)
            have HJT := Lib.hid (show (⟨(jT (xs.take (k + 1))).toArray⟩ : ByteArray) = P ++ ⟨#[32]⟩ ++ ⟨(jS x).toArray⟩ by
              rw [HTK.out, jT_snoc _ _ (by intro e; have := congrArg List.length e; rw [List.length_take, ← HN.out] at this; simp at this; omega), HP.out, show (⟨#[32]⟩ : ByteArray) = ⟨[32].toArray⟩ from rfl, str_app, str_app]
              simp)
            cases q
            · cases ba
              · skip
                have HE := Lib.hid (HBAD.out (by rw [HJB.out]; rfl))
                go_wp2_with (first
                  | (go_at_call 45; refine (BT.out _).mono ?_; rintro e w' ⟨rfl, rfl⟩)
                  | (go_at_call 21; refine (RQ.out _).mono ?_; rintro e w2 ⟨rfl, hb2⟩; have hbel := Lib.hid (HB.out.trans (hb2.mono HB.out.size)))
                  )
                go_ret2
                exact jPost_bad HE.out (by decide) HB.out
              · skip
                go_wp2_with (first
                  | (go_at_call 45; refine (BT.out _).mono ?_; rintro e w' ⟨rfl, rfl⟩)
                  | (go_at_call 21; refine (RQ.out _).mono ?_; rintro e w2 ⟨rfl, hb2⟩; have hbel := Lib.hid (HB.out.trans (hb2.mono HB.out.size)))
                  )
                go_roundw
                case rel => exact ⟨k + 1, P ++ ⟨#[32]⟩ ++ S, by omega, by go_num, rfl, Lib.hid (by rw [HJT.out, HJS.out]; rfl), HB.out, Lib.hid (HGD.out (by rw [HJB.out]; rfl))⟩
                case measure => simp [intOf]; omega
            · skip
              go_wp2_with (first
                | (go_at_call 45; refine (BT.out _).mono ?_; rintro e w' ⟨rfl, rfl⟩)
                | (go_at_call 21; refine (RQ.out _).mono ?_; rintro e w2 ⟨rfl, hb2⟩; have hbel := Lib.hid (HB.out.trans (hb2.mono HB.out.size)))
                )
              go_roundw
              case rel => exact ⟨k + 1, P ++ ⟨#[32]⟩ ++ Y, by omega, by go_num, rfl, Lib.hid (by rw [HJT.out, HJS.out]; rfl), hbel.out, Lib.hid (HGD.out (by rw [HJB.out]; rfl))⟩
              case measure => simp [intOf]; omega
        · have hltb : decide ((k : Int) < (n : Int)) = false := decide_eq_false (by omega)
          obtain rfl : k = n := by omega
          have hT : xs.take k = xs := List.take_of_length_le (by rw [HN.out]; exact Nat.le_refl _)
          rw [hT] at HP hgd
          have hPs : P.size = (jT xs).length := by rw [HP.out, size_mk]
          have HEE := Lib.hid (show joinE xs = if 8192 < P.size then 3 else 0 by
            have hb : xs.any jBad = false := by rw [List.any_eq_false]; intro x hx; rw [hgd.out x hx]; decide
            unfold joinE; rw [← HN.out, if_neg h64, HLO.out, hb, hPs]; rfl)
          clear hT hPs
          by_cases h8 : 8192 < P.size
          · have ht : decide ((8192 : Int) < (P.size : Int)) = true := decide_eq_true (by omega)
            have HE := Lib.hid (HEE.out.trans (if_pos h8))
            clear h8
            go_wp2
            go_ret2
            exact jPost_bad HE.out (by decide) hbel
          · have ht : decide ((8192 : Int) < (P.size : Int)) = false := decide_eq_false (by omega)
            have HE := Lib.hid (HEE.out.trans (if_neg h8))
            clear h8
            go_wp2
            go_ret2
            refine ⟨?_, hbel⟩
            rw [HE.out, show joinR xs = jT xs by unfold joinR; rw [HE.out, if_pos rfl], ← HP.out]
            rfl
end Go.Proofs.YtinffflkplhdiaaDoor
