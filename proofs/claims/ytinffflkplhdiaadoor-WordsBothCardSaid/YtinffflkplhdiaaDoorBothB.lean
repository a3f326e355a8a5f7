/- Layer 1: the law on two lines, walked. -/
import Derived.Test.YtinffflkplhdiaaDoorBothA
namespace Go.Proofs.YtinffflkplhdiaaDoor
open Go.RowKit
theorem own_lit {w1 : World} {base : Nat} (h : base ≤ w1.heap.size) : (w1.alloc (.cells #[] 49)).ownsRow base 49 2 (.slice (some ⟨w1.heap.size, 0, none⟩) 0 0) ([] : List Item).length (([] : List Item).flatMap encF) := World.ownsRow_made w1 #[] 0 h (by decide) rfl
theorem below_lit {w w1 : World} (hb : Below w.heap.size w w1) : Below w.heap.size w (w1.alloc (.cells #[] 49)) := hb.alloc hb.size _
set_option maxHeartbeats 4000000 in
set_option maxRecDepth 100000 in
theorem both_any (v u : Value) (xs ys : List Item) (w : World) (hw : LW w) (hv : FSl w v xs) (hu : FSl w u ys) : Calls Tryd.prog 9 #[v, u] w fun e w' => e = .returned (.bool true) ∧ Below w.heap.size w w' := by
  have SH := Lib.hid (fun w' (h : Below w.heap.size w w') => shown_any w' (hw.below h))
  have hb := Below.refl w.heap.size w
  have FA := Lib.hid (far_any v xs w hv)
  have FB := Lib.hid (far_any u ys w hu)
  unfold FarPost at FA FB
  have HV := Lib.hid (fun w' (h : Below w.heap.size w w') => hv.below h)
  have HU := Lib.hid (fun w' (h : Below w.heap.size w w') => hu.below h)
  have J1 := Lib.hid (fun w' (h : Below w.heap.size w w') (hl : xs.length ≤ 70) => join_any v xs w' (hw.below h) (hv.below h) (Nat.le_trans hl (by decide)))
  have J2 := Lib.hid (fun w' (h : Below w.heap.size w w') (hl : ys.length ≤ 70) => join_any u ys w' (hw.below h) (hu.below h) (Nat.le_trans hl (by decide)))
  have J3 := Lib.hid (fun w' v' (h : Below w.heap.size w w') (hf : FSl w' v' (xs ++ ys)) (hl : (xs ++ ys).length ≤ 140) => join_any v' (xs ++ ys) w' (hw.below h) hf (Nat.le_trans hl (by decide)))
  unfold JPost at J1 J2 J3
  have hxe : 0 < xs.length → xs ≠ [] := fun h e => by rw [e] at h; simp at h
  have hye : 0 < ys.length → ys ≠ [] := fun h e => by rw [e] at h; simp at h
  have happ : (xs ++ ys).length = xs.length + ys.length := List.length_append
  obtain ⟨p, c, rfl, -⟩ := id hv
  obtain ⟨p2, c2, rfl, -⟩ := id hu
  clear hv hu hw
  obtain ⟨n, hn⟩ : ∃ n, xs.length = n := ⟨_, rfl⟩
  obtain ⟨m, hm⟩ : ∃ m, ys.length = m := ⟨_, rfl⟩
  have JZ := Lib.hid (fun h1 h2 => joinE_app (hxe h1) (hye h2))
  have JN := Lib.hid (fun h1 h2 => joinE_app_ne (hxe h1) (hye h2))
  rw [hn, hm] at happ JZ JN
  rw [happ] at J3
  rw [hn] at FA HV J1 ⊢
  rw [hm] at FB HU J2 ⊢
  have HN := Lib.hid hn
  have HM := Lib.hid hm
  clear hn hm hxe hye happ
  by_cases h0 : n = 0 ∨ m = 0
  · clear JZ JN J1 J2 J3 HV HU
    have hz : ((n : Int) == 0) = true ∨ ((n : Int) == 0) = false ∧ ((m : Int) == 0) = true := by
      by_cases h : n = 0
      · exact .inl (by simp [h])
      · have : m = 0 := by omega
        exact .inr ⟨by simp [h], by simp [this]⟩
    clear h0
    go_enter Tryd.func9, Tryd.ntmps9
    rcases hz with hz | ⟨hz, hz'⟩
    · go_wp2_with (first
        | (go_at_call 25; first
          | ((with_reducible refine FA.out.mono ?_); rintro e w1 ⟨rfl, b, rfl, hba⟩; cases b)
          | ((with_reducible refine FB.out.mono ?_); rintro e w1 ⟨rfl, b', rfl, hbb⟩; cases b'))
        | (go_at_call 11; refine (SH.out _ hb).mono ?_; rintro e w4 ⟨rfl, hb2⟩; replace hb := hb.trans (hb2.mono hb.size); clear hb2)
        )
      all_goals (go_ret; exact ⟨rfl, hb⟩)
    · go_wp2_with (first
        | (go_at_call 25; first
          | ((with_reducible refine FA.out.mono ?_); rintro e w1 ⟨rfl, b, rfl, hba⟩; cases b)
          | ((with_reducible refine FB.out.mono ?_); rintro e w1 ⟨rfl, b', rfl, hbb⟩; cases b'))
        | (go_at_call 11; refine (SH.out _ hb).mono ?_; rintro e w4 ⟨rfl, hb2⟩; replace hb := hb.trans (hb2.mono hb.size); clear hb2)
        )
      all_goals (go_ret; exact ⟨rfl, hb⟩)
  · have hz1 : ((n : Int) == 0) = false := by simp; omega
    have hz2 : ((m : Int) == 0) = false := by simp; omega
    have hp1 : 0 < n := by omega
    have hp2 : 0 < m := by omega
    clear h0
    go_enter Tryd.func9, Tryd.ntmps9
    go_upto_if 26 with (first
      | (go_at_call 25; first
        | ((with_reducible refine FA.out.mono ?_); rintro e w1 ⟨rfl, b, rfl, hba⟩; cases b)
        | ((with_reducible refine FB.out.mono ?_); rintro e w1 ⟨rfl, b', rfl, hbb⟩; cases b'))
      )
    · have hn70 : n ≤ 70 := by simpa using hba
      have hm70 : m ≤ 70 := by simpa using hbb
      clear hba hbb FA FB
      have hn0 : 0 < xs.length := by rw [HN.out]; exact hp1
      have hm0 : 0 < ys.length := by rw [HM.out]; exact hp2
      have hn1 : xs.length ≤ 1000 := by rw [HN.out]; omega
      have hm1 : ys.length ≤ 1000 := by rw [HM.out]; omega
      replace J1 := Lib.hid (fun w' h => J1.out w' h hn70)
      replace J2 := Lib.hid (fun w' h => J2.out w' h hm70)
      replace J3 := Lib.hid (fun w' v' h hf => J3.out w' v' h hf (by omega))
      by_cases hE : joinE xs = 0 ∧ joinE ys = 0
      · obtain ⟨E1, E2⟩ := hE
        have E3 := JZ.out hp1 hp2 E1 E2
        have l1 := (joinE_zero.1 E1).2.2.2
        have l2 := (joinE_zero.1 E2).2.2.2
        have T := jT_app (List.ne_nil_of_length_pos hn0) (List.ne_nil_of_length_pos hm0)
        have R1 : joinR xs = jT xs := by unfold joinR; rw [if_pos E1]
        have R2 : joinR ys = jT ys := by unfold joinR; rw [if_pos E2]
        have R3 : joinE (xs ++ ys) = 0 → joinR (xs ++ ys) = jT xs ++ 32 :: jT ys := fun h => by unfold joinR; rw [if_pos h, T]
        have R4 : joinE (xs ++ ys) = 3 → joinR (xs ++ ys) = [] := fun h => by unfold joinR; rw [h]; rfl
        rw [E1, R1] at J1
        rw [E2, R2] at J2
        clear E1 E2 R1 R2 T JZ JN
        obtain ⟨A, hA⟩ : ∃ A : ByteArray, (⟨(jT xs).toArray⟩ : ByteArray) = A := ⟨_, rfl⟩
        obtain ⟨B, hB⟩ : ∃ A : ByteArray, (⟨(jT ys).toArray⟩ : ByteArray) = A := ⟨_, rfl⟩
        have sA : (jT xs).length = A.size := by rw [← hA]; simp [ByteArray.size]
        have sB : (jT ys).length = B.size := by rw [← hB]; simp [ByteArray.size]
        have hC : (⟨(jT xs ++ 32 :: jT ys).toArray⟩ : ByteArray) = A ++ ⟨#[32]⟩ ++ B := by
          rw [← hA, ← hB, show (⟨#[32]⟩ : ByteArray) = ⟨([32] : List UInt8).toArray⟩ from rfl, ByteArray.mk_append_mk, ByteArray.mk_append_mk]
          simp
        rw [hA] at J1
        rw [hB] at J2
        rw [sA] at E3 l1
        rw [sB] at E3 l2
        have w1 : IntKind.i64.wrap ((n : Int) + (m : Int)) = (n : Int) + (m : Int) := IntWalk.i64_in _ (by omega)
        have w2 : IntKind.i64.wrap ((A.size : Int) + 1) = (A.size : Int) + 1 := IntWalk.i64_in _ (by omega)
        have w3 : IntKind.i64.wrap ((A.size : Int) + 1 + (B.size : Int)) = (A.size : Int) + 1 + (B.size : Int) := IntWalk.i64_in _ (by omega)
        by_cases hP : 64 < n + m ∨ 8192 < A.size + 1 + B.size
        · rw [if_pos hP] at E3
          rw [E3, R4 E3] at J3
          have hq : decide ((64 : Int) < (n : Int) + (m : Int)) = true ∨ decide ((64 : Int) < (n : Int) + (m : Int)) = false ∧ decide ((8192 : Int) < (A.size : Int) + 1 + (B.size : Int)) = true := by
            by_cases h : 64 < n + m
            · exact .inl (decide_eq_true (by omega))
            · exact .inr ⟨decide_eq_false (by omega), decide_eq_true (by omega)⟩
          clear hA hB sA sB hC R3 R4 E3 hP l1 l2
          rcases hq with hq | ⟨hq, hq2⟩
          · skip
            go_wp2_with (first
              | (go_at_call 26; first
                | ((with_reducible refine (J1.out _ hb).mono ?_); rintro e w1 ⟨rfl, hb2⟩; replace hb := hb.trans (hb2.mono hb.size); clear hb2)
                | ((with_reducible refine (J2.out _ hb).mono ?_); rintro e w1 ⟨rfl, hb2⟩; replace hb := hb.trans (hb2.mono hb.size); clear hb2)
                | ((with_reducible refine (J3.out _ _ hb hf).mono ?_); rintro e w1 ⟨rfl, hb2⟩; replace hb := hb.trans (hb2.mono hb.size); clear hb2))
              | (at_builtin; first
                | (refine wpList_appF rfl _ _ rfl w.heap.size _ xs rfl own1 _ ys rfl (HU.out _ hb) hm0 hm1 hn1 hb.size ?_; intro v2 w6 own2 hb6; replace hb := hb.trans hb6; have hf := FSl.of_own own2; clear own1 own2 hb6)
                | (refine wpList_appF rfl _ _ rfl w.heap.size _ [] rfl (own_lit hb.size) _ xs rfl (HV.out _ (below_lit hb)) hn0 hn1 (Nat.zero_le _) (below_lit hb).size ?_; intro v1 w5 own1 hb5; replace hb := (below_lit hb).trans hb5; clear hb5; rw [List.nil_append] at own1))
              | (go_at_call 11; refine (SH.out _ hb).mono ?_; rintro e w4 ⟨rfl, hb2⟩; replace hb := hb.trans (hb2.mono hb.size); clear hb2)
              )
            go_ret
            exact ⟨rfl, hb⟩
          · skip
            go_wp2_with (first
              | (go_at_call 26; first
                | ((with_reducible refine (J1.out _ hb).mono ?_); rintro e w1 ⟨rfl, hb2⟩; replace hb := hb.trans (hb2.mono hb.size); clear hb2)
                | ((with_reducible refine (J2.out _ hb).mono ?_); rintro e w1 ⟨rfl, hb2⟩; replace hb := hb.trans (hb2.mono hb.size); clear hb2)
                | ((with_reducible refine (J3.out _ _ hb hf).mono ?_); rintro e w1 ⟨rfl, hb2⟩; replace hb := hb.trans (hb2.mono hb.size); clear hb2))
              | (at_builtin; first
                | (refine wpList_appF rfl _ _ rfl w.heap.size _ xs rfl own1 _ ys rfl (HU.out _ hb) hm0 hm1 hn1 hb.size ?_; intro v2 w6 own2 hb6; replace hb := hb.trans hb6; have hf := FSl.of_own own2; clear own1 own2 hb6)
                | (refine wpList_appF rfl _ _ rfl w.heap.size _ [] rfl (own_lit hb.size) _ xs rfl (HV.out _ (below_lit hb)) hn0 hn1 (Nat.zero_le _) (below_lit hb).size ?_; intro v1 w5 own1 hb5; replace hb := (below_lit hb).trans hb5; clear hb5; rw [List.nil_append] at own1))
              | (go_at_call 11; refine (SH.out _ hb).mono ?_; rintro e w4 ⟨rfl, hb2⟩; replace hb := hb.trans (hb2.mono hb.size); clear hb2)
              )
            go_ret
            exact ⟨rfl, hb⟩
        · rw [if_neg hP] at E3
          rw [E3, R3 E3, hC] at J3
          have hq : decide ((64 : Int) < (n : Int) + (m : Int)) = false := decide_eq_false (by omega)
          have hq2 : decide ((8192 : Int) < (A.size : Int) + 1 + (B.size : Int)) = false := decide_eq_false (by omega)
          have c1 : ¬ 9223372036854775807 < A.size + 1 := by omega
          have c2 : ¬ 9223372036854775807 < A.size + 1 + B.size := by omega
          clear hA hB sA sB hC R3 R4 E3 hP l1 l2
          go_wp2_with (first
            | (go_at_call 26; first
              | ((with_reducible refine (J1.out _ hb).mono ?_); rintro e w1 ⟨rfl, hb2⟩; replace hb := hb.trans (hb2.mono hb.size); clear hb2)
              | ((with_reducible refine (J2.out _ hb).mono ?_); rintro e w1 ⟨rfl, hb2⟩; replace hb := hb.trans (hb2.mono hb.size); clear hb2)
              | ((with_reducible refine (J3.out _ _ hb hf).mono ?_); rintro e w1 ⟨rfl, hb2⟩; replace hb := hb.trans (hb2.mono hb.size); clear hb2))
            | (at_builtin; first
              | (refine wpList_appF rfl _ _ rfl w.heap.size _ xs rfl own1 _ ys rfl (HU.out _ hb) hm0 hm1 hn1 hb.size ?_; intro v2 w6 own2 hb6; replace hb := hb.trans hb6; have hf := FSl.of_own own2; clear own1 own2 hb6)
              | (refine wpList_appF rfl _ _ rfl w.heap.size _ [] rfl (own_lit hb.size) _ xs rfl (HV.out _ (below_lit hb)) hn0 hn1 (Nat.zero_le _) (below_lit hb).size ?_; intro v1 w5 own1 hb5; replace hb := (below_lit hb).trans hb5; clear hb5; rw [List.nil_append] at own1))
            | (go_at_call 11; refine (SH.out _ hb).mono ?_; rintro e w4 ⟨rfl, hb2⟩; replace hb := hb.trans (hb2.mono hb.size); clear hb2)
            )
          go_ret
          exact ⟨rfl, hb⟩
      · have hE3 := JN.out hp1 hp2 hE
        have hne : (joinE (xs ++ ys) != 0) = true := by simp [hE3]
        have hor : (joinE xs != 0) = true ∨ (joinE xs != 0) = false ∧ (joinE ys != 0) = true := by
          by_cases h : joinE xs = 0
          · exact .inr ⟨by simp [h], by simp; intro h2; exact hE ⟨h, h2⟩⟩
          · exact .inl (by simp [h])
        clear hE hE3 JZ JN
        generalize joinE (xs ++ ys) = E3 at *
        generalize joinE xs = E1 at *
        generalize joinE ys = E2 at *
        generalize (⟨(joinR (xs ++ ys)).toArray⟩ : ByteArray) = R3 at *
        generalize (⟨(joinR xs).toArray⟩ : ByteArray) = R1 at *
        generalize (⟨(joinR ys).toArray⟩ : ByteArray) = R2 at *
        rcases hor with ho | ⟨ho, ho2⟩
        · skip
          go_wp2_with (first
            | (go_at_call 26; first
              | ((with_reducible refine (J1.out _ hb).mono ?_); rintro e w1 ⟨rfl, hb2⟩; replace hb := hb.trans (hb2.mono hb.size); clear hb2)
              | ((with_reducible refine (J2.out _ hb).mono ?_); rintro e w1 ⟨rfl, hb2⟩; replace hb := hb.trans (hb2.mono hb.size); clear hb2)
              | ((with_reducible refine (J3.out _ _ hb hf).mono ?_); rintro e w1 ⟨rfl, hb2⟩; replace hb := hb.trans (hb2.mono hb.size); clear hb2))
            | (at_builtin; first
              | (refine wpList_appF rfl _ _ rfl w.heap.size _ xs rfl own1 _ ys rfl (HU.out _ hb) hm0 hm1 hn1 hb.size ?_; intro v2 w6 own2 hb6; replace hb := hb.trans hb6; have hf := FSl.of_own own2; clear own1 own2 hb6)
              | (refine wpList_appF rfl _ _ rfl w.heap.size _ [] rfl (own_lit hb.size) _ xs rfl (HV.out _ (below_lit hb)) hn0 hn1 (Nat.zero_le _) (below_lit hb).size ?_; intro v1 w5 own1 hb5; replace hb := (below_lit hb).trans hb5; clear hb5; rw [List.nil_append] at own1))
            | (go_at_call 11; refine (SH.out _ hb).mono ?_; rintro e w4 ⟨rfl, hb2⟩; replace hb := hb.trans (hb2.mono hb.size); clear hb2)
            )
          go_ret
          exact ⟨rfl, hb⟩
        · skip
          go_wp2_with (first
            | (go_at_call 26; first
              | ((with_reducible refine (J1.out _ hb).mono ?_); rintro e w1 ⟨rfl, hb2⟩; replace hb := hb.trans (hb2.mono hb.size); clear hb2)
              | ((with_reducible refine (J2.out _ hb).mono ?_); rintro e w1 ⟨rfl, hb2⟩; replace hb := hb.trans (hb2.mono hb.size); clear hb2)
              | ((with_reducible refine (J3.out _ _ hb hf).mono ?_); rintro e w1 ⟨rfl, hb2⟩; replace hb := hb.trans (hb2.mono hb.size); clear hb2))
            | (at_builtin; first
              | (refine wpList_appF rfl _ _ rfl w.heap.size _ xs rfl own1 _ ys rfl (HU.out _ hb) hm0 hm1 hn1 hb.size ?_; intro v2 w6 own2 hb6; replace hb := hb.trans hb6; have hf := FSl.of_own own2; clear own1 own2 hb6)
              | (refine wpList_appF rfl _ _ rfl w.heap.size _ [] rfl (own_lit hb.size) _ xs rfl (HV.out _ (below_lit hb)) hn0 hn1 (Nat.zero_le _) (below_lit hb).size ?_; intro v1 w5 own1 hb5; replace hb := (below_lit hb).trans hb5; clear hb5; rw [List.nil_append] at own1))
            | (go_at_call 11; refine (SH.out _ hb).mono ?_; rintro e w4 ⟨rfl, hb2⟩; replace hb := hb.trans (hb2.mono hb.size); clear hb2)
            )
          go_ret
          exact ⟨rfl, hb⟩
    · go_wp2_with (first
        | (go_at_call 11; refine (SH.out _ hb).mono ?_; rintro e w4 ⟨rfl, hb2⟩; replace hb := hb.trans (hb2.mono hb.size); clear hb2)
        )
      go_ret
      exact ⟨rfl, hb⟩
    · go_wp2_with (first
        | (go_at_call 11; refine (SH.out _ hb).mono ?_; rintro e w4 ⟨rfl, hb2⟩; replace hb := hb.trans (hb2.mono hb.size); clear hb2)
        )
      go_ret
      exact ⟨rfl, hb⟩
end Go.Proofs.YtinffflkplhdiaaDoor
