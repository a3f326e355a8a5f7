/- Layer 2: the law on texts, walked. -/
import Derived.Test.YtnegnmjjibhldaaDoorU
namespace Go.Proofs.YtnegnmjjibhldaaDoor
open Go.RowKit
theorem joinD_snoc : ∀ {ps : List (List UInt8)} (p : List UInt8), ps ≠ [] → joinD (ps ++ [p]) = joinD ps ++ 46 :: p
  | [q], p, _ => rfl
  | q :: r :: ps, p, _ => by
    show q ++ 46 :: joinD ((r :: ps) ++ [p]) = (q ++ 46 :: joinD (r :: ps)) ++ 46 :: p
    rw [joinD_snoc (ps := r :: ps) p (by simp)]; simp
theorem printTo_join (xs : List Nat) : ∀ k, 0 < k → printTo xs k = joinD ((List.range k).map fun n => digs (xs.getD (xs.length - 1 - n) 0) 16)
  | 1, _ => rfl
  | k + 2, _ => by
    rw [printTo_succ, printTo_join xs (k + 1) (by omega), if_neg (by omega), List.range_succ (n := k + 1), List.map_append, List.map_singleton, joinD_snoc _ (by simp)]
    rfl
theorem print_join {xs : List Nat} (hc : chk xs.length = 0) : printL xs = joinD (rowsT xs) := by
  unfold printL rowsT
  rw [if_pos hc, printTo_join xs _ (chk_zero hc).1]
theorem parse_print {xs : List Nat} (hw : Wf xs) (hc : chk xs.length = 0) : parseE (printL xs) = 0 ∧ parseR (printL xs) = xs := by
  have h8 := chk_zero hc
  have hne : rowsT xs ≠ [] := by intro e; have := congrArg List.length e; rw [rowsT_len] at this; have h0 : xs.length = 0 := this; omega
  have hp : parts (printL xs) = rowsT xs := by rw [print_join hc]; exact parts_joinD hne (all_nodot (rowsT_ok xs))
  have hl := joinD_len hne (rowsT_ok xs)
  rw [← print_join hc, rowsT_len] at hl
  have e : parseE (printL xs) = 0 := by unfold parseE; rw [if_neg (by omega), hp, rowsT_ok]; rfl
  exact ⟨e, by unfold parseR; rw [if_pos e, hp, row_of_text hw]⟩
theorem print_parse {l : List UInt8} (h : parseE l = 0) : chk (parseR l).length = 0 ∧ Wf (parseR l) ∧ printL (parseR l) = l := by
  obtain ⟨h1, h2, h3, h4, h5⟩ := parse_good h
  have e : parseR l = parseRow (parts l) := by unfold parseR; rw [if_pos h]
  have hc : chk (parseR l).length = 0 := by rw [e, parseRow_len]; unfold chk; rw [if_neg (by omega), if_neg (by omega)]
  refine ⟨hc, by rw [e]; exact parseRow_wf h2, ?_⟩
  rw [print_join hc, e, text_of_row h2, joinD_parts]
theorem mk_data (s : ByteArray) : (⟨s.data.toList.toArray⟩ : ByteArray) = s := by simp
theorem printL_len (xs : List Nat) : (printL xs).length ≤ 1000 := by
  unfold printL
  split
  · rename_i h
    have := printTo_len xs xs.length
    have := chk_zero h
    omega
  · simp
set_option maxHeartbeats 400000 in
set_option maxRecDepth 100000 in
theorem texts_any (v : Value) (xs : List Nat) (s : ByteArray) (w : World) (hm : ML w) (hv : URow w v xs) (hw : Wf xs) (hs : s.size ≤ maxLen) : Calls Tryd.prog 3 #[v, .string s] w fun e w' => e = .returned (.bool true) ∧ Below w.heap.size w w' := by
  have FA := Lib.hid (far_any v xs w hv)
  have AW := Lib.hid (fun w' => awake_any w')
  have hs63 := hs
  unfold maxLen at hs63
  by_cases h20 : 20 < xs.length
  · rw [decide_eq_true h20] at FA
    clear h20
    go_enter Tryd.func3, Tryd.ntmps3
    go_wp2_with (first
      | (go_at_call 5; refine FA.out.mono ?_; rintro e w1 ⟨rfl, rfl⟩)
      | (go_at_call 6; refine (AW.out _).mono ?_; rintro e w2 ⟨rfl, hb⟩))
    go_ret
    exact ⟨rfl, hb⟩
  rw [decide_eq_false h20] at FA
  by_cases h200 : 200 < s.size
  · have hb1 : decide ((200 : Int) < (s.size : Int)) = true := decide_eq_true (by omega)
    clear h20 h200
    go_enter Tryd.func3, Tryd.ntmps3
    go_wp2_with (first
      | (go_at_call 5; refine FA.out.mono ?_; rintro e w1 ⟨rfl, rfl⟩)
      | (go_at_call 6; refine (AW.out _).mono ?_; rintro e w2 ⟨rfl, hb⟩))
    go_ret
    exact ⟨rfl, hb⟩
  have hb1 : decide ((200 : Int) < (s.size : Int)) = false := decide_eq_false (by omega)
  have P1 := Lib.hid (fun w' (h : Below w.heap.size w w') => print_any v xs w' (hv.below h) hw)
  have P2 := Lib.hid (fun w' (h : Below w.heap.size w w') => rprint_any v xs w' (hv.below h) hw)
  have A1 := Lib.hid (fun w' (h : Below w.heap.size w w') => parse_any s w' (hm.below h) hs)
  have A2 := Lib.hid (fun w' (_ : Below w.heap.size w w') => rparse_any s w' hs)
  have hl : (parseR s.data.toList).length ≤ 1000000 := by
    unfold parseR; split
    · rename_i h; have := parse_good h; rw [parseRow_len]; omega
    · simp
  have SC := Lib.hid (fun w' a b (h1 : URow w' a (parseR s.data.toList)) (h2 : URow w' b (parseR s.data.toList)) => same_yes a b _ w' h1 h2 hl)
  have SV := Lib.hid (fun w' a b (h1 : URow w' a xs) (h2 : URow w' b xs) => same_yes a b _ w' h1 h2 (by omega))
  have HV := Lib.hid (fun w' (h : Below w.heap.size w w') => hv.below h)
  have hpl := printL_len xs
  have hb := Below.refl w.heap.size w
  have hPs : (⟨(printL xs).toArray⟩ : ByteArray).size ≤ maxLen := by show (_ : List UInt8).toArray.size ≤ _; rw [List.size_toArray]; simp only [maxLen]; omega
  unfold TextPost at P1 P2
  by_cases hc : chk xs.length = 0
  · have hpp := parse_print hw hc
    have AB := Lib.hid (fun w' (h : Below w.heap.size w w') => show Calls _ _ _ _ (RowPost w' xs 0) from by
      have := parse_any ⟨(printL xs).toArray⟩ w' (hm.below h) hPs
      rw [show (⟨(printL xs).toArray⟩ : ByteArray).data.toList = printL xs from rfl, hpp.1, hpp.2] at this
      exact this)
    rw [hc] at P1 P2
    by_cases hg : parseE s.data.toList = 0
    · obtain ⟨q1, q2, q3⟩ := print_parse hg
      have PB := Lib.hid (fun w' c (h : URow w' c (parseR s.data.toList)) => show Calls _ _ _ _ (fun e w2 => e = .returned (.tuple #[.string s, .int .i64 0]) ∧ Below w'.heap.size w' w2) from by
        have := print_any c _ w' h q2
        unfold TextPost at this
        rw [q3, q1, mk_data] at this
        exact this)
      rw [hg] at A1 A2
      generalize parseR s.data.toList = rr at *
      generalize (⟨(printL xs).toArray⟩ : ByteArray) = T at *
      clear h20 h200 hc hpp hg q1 q2 q3 hl hpl hv hw hm hs
      go_enter Tryd.func3, Tryd.ntmps3
      go_wp2_with (first
        | (go_at_call 5; refine FA.out.mono ?_; rintro e w1 ⟨rfl, rfl⟩)
        | (go_at_call 7; first
          | ((with_reducible refine (P1.out _ hb).mono ?_); rintro e w1 ⟨rfl, hb2⟩; have hb := hb.trans (hb2.mono hb.size); (try have rc := rc.below hb2); (try have rd := rd.below hb2); (try have ru := ru.below hb2))
          | ((with_reducible refine (PB.out _ _ rc).mono ?_); rintro e w1 ⟨rfl, hb2⟩; have hb := hb.trans (hb2.mono hb.size); (try have rc := rc.below hb2); (try have rd := rd.below hb2); (try have ru := ru.below hb2)))
        | (go_at_call 8; refine (P2.out _ hb).mono ?_; rintro e w1 ⟨rfl, hb2⟩; have hb := hb.trans (hb2.mono hb.size); (try have rc := rc.below hb2); (try have rd := rd.below hb2); (try have ru := ru.below hb2))
        | (go_at_call 9; first
          | ((with_reducible refine (A1.out _ hb).mono ?_); rintro e w1 ⟨c, rfl, rc, hb2⟩; have hb := hb.trans (hb2.mono hb.size); (try have rd := rd.below hb2); (try have ru := ru.below hb2))
          | ((with_reducible refine (AB.out _ hb).mono ?_); rintro e w1 ⟨u, rfl, ru, hb2⟩; have hb := hb.trans (hb2.mono hb.size); (try have rc := rc.below hb2); (try have rd := rd.below hb2)))
        | (go_at_call 10; refine (A2.out _ hb).mono ?_; rintro e w1 ⟨d, rfl, rd, hb2⟩; have hb := hb.trans (hb2.mono hb.size); (try have rc := rc.below hb2); (try have ru := ru.below hb2))
        | (go_at_call 11; first
          | ((with_reducible refine (SC.out _ _ _ rc rd).mono ?_); rintro e w1 ⟨rfl, hb2⟩; have hb := hb.trans (hb2.mono hb.size); (try have rc := rc.below hb2); (try have ru := ru.below hb2))
          | ((with_reducible refine (SV.out _ _ _ ru (HV.out _ hb)).mono ?_); rintro e w1 ⟨rfl, hb2⟩; have hb := hb.trans (hb2.mono hb.size); (try have rc := rc.below hb2)))
        | (go_at_call 6; refine (AW.out _).mono ?_; rintro e w6 ⟨rfl, hb2⟩; have hb := hb.trans (hb2.mono hb.size)))
      go_ret
      exact ⟨rfl, hb⟩
    · have hg1 : (parseE s.data.toList == 0) = false := by simp [hg]
      generalize parseR s.data.toList = rr at *
      generalize parseE s.data.toList = E at *
      generalize (⟨(printL xs).toArray⟩ : ByteArray) = T at *
      have PB := trivial
      clear h20 h200 hc hpp hg hl hpl hv hw hm hs
      go_enter Tryd.func3, Tryd.ntmps3
      go_wp2_with (first
        | (go_at_call 5; refine FA.out.mono ?_; rintro e w1 ⟨rfl, rfl⟩)
        | (go_at_call 7; first
          | ((with_reducible refine (P1.out _ hb).mono ?_); rintro e w1 ⟨rfl, hb2⟩; have hb := hb.trans (hb2.mono hb.size); (try have rc := rc.below hb2); (try have rd := rd.below hb2); (try have ru := ru.below hb2))
          | ((with_reducible refine (PB.out _ _ rc).mono ?_); rintro e w1 ⟨rfl, hb2⟩; have hb := hb.trans (hb2.mono hb.size); (try have rc := rc.below hb2); (try have rd := rd.below hb2); (try have ru := ru.below hb2)))
        | (go_at_call 8; refine (P2.out _ hb).mono ?_; rintro e w1 ⟨rfl, hb2⟩; have hb := hb.trans (hb2.mono hb.size); (try have rc := rc.below hb2); (try have rd := rd.below hb2); (try have ru := ru.below hb2))
        | (go_at_call 9; first
          | ((with_reducible refine (A1.out _ hb).mono ?_); rintro e w1 ⟨c, rfl, rc, hb2⟩; have hb := hb.trans (hb2.mono hb.size); (try have rd := rd.below hb2); (try have ru := ru.below hb2))
          | ((with_reducible refine (AB.out _ hb).mono ?_); rintro e w1 ⟨u, rfl, ru, hb2⟩; have hb := hb.trans (hb2.mono hb.size); (try have rc := rc.below hb2); (try have rd := rd.below hb2)))
        | (go_at_call 10; refine (A2.out _ hb).mono ?_; rintro e w1 ⟨d, rfl, rd, hb2⟩; have hb := hb.trans (hb2.mono hb.size); (try have rc := rc.below hb2); (try have ru := ru.below hb2))
        | (go_at_call 11; first
          | ((with_reducible refine (SC.out _ _ _ rc rd).mono ?_); rintro e w1 ⟨rfl, hb2⟩; have hb := hb.trans (hb2.mono hb.size); (try have rc := rc.below hb2); (try have ru := ru.below hb2))
          | ((with_reducible refine (SV.out _ _ _ ru (HV.out _ hb)).mono ?_); rintro e w1 ⟨rfl, hb2⟩; have hb := hb.trans (hb2.mono hb.size); (try have rc := rc.below hb2)))
        | (go_at_call 6; refine (AW.out _).mono ?_; rintro e w6 ⟨rfl, hb2⟩; have hb := hb.trans (hb2.mono hb.size)))
      go_ret
      exact ⟨rfl, hb⟩
  · have hc1 : (chk xs.length == 0) = false := by simp [hc]
    have AB := trivial
    by_cases hg : parseE s.data.toList = 0
    · obtain ⟨q1, q2, q3⟩ := print_parse hg
      have PB := Lib.hid (fun w' c (h : URow w' c (parseR s.data.toList)) => show Calls _ _ _ _ (fun e w2 => e = .returned (.tuple #[.string s, .int .i64 0]) ∧ Below w'.heap.size w' w2) from by
        have := print_any c _ w' h q2
        unfold TextPost at this
        rw [q3, q1, mk_data] at this
        exact this)
      rw [hg] at A1 A2
      generalize parseR s.data.toList = rr at *
      generalize (⟨(printL xs).toArray⟩ : ByteArray) = T at *
      generalize chk xs.length = F at *
      clear h20 h200 hc hg q1 q2 q3 hl hpl hv hw hm hs
      go_enter Tryd.func3, Tryd.ntmps3
      go_wp2_with (first
        | (go_at_call 5; refine FA.out.mono ?_; rintro e w1 ⟨rfl, rfl⟩)
        | (go_at_call 7; first
          | ((with_reducible refine (P1.out _ hb).mono ?_); rintro e w1 ⟨rfl, hb2⟩; have hb := hb.trans (hb2.mono hb.size); (try have rc := rc.below hb2); (try have rd := rd.below hb2); (try have ru := ru.below hb2))
          | ((with_reducible refine (PB.out _ _ rc).mono ?_); rintro e w1 ⟨rfl, hb2⟩; have hb := hb.trans (hb2.mono hb.size); (try have rc := rc.below hb2); (try have rd := rd.below hb2); (try have ru := ru.below hb2)))
        | (go_at_call 8; refine (P2.out _ hb).mono ?_; rintro e w1 ⟨rfl, hb2⟩; have hb := hb.trans (hb2.mono hb.size); (try have rc := rc.below hb2); (try have rd := rd.below hb2); (try have ru := ru.below hb2))
        | (go_at_call 9; first
          | ((with_reducible refine (A1.out _ hb).mono ?_); rintro e w1 ⟨c, rfl, rc, hb2⟩; have hb := hb.trans (hb2.mono hb.size); (try have rd := rd.below hb2); (try have ru := ru.below hb2))
          | ((with_reducible refine (AB.out _ hb).mono ?_); rintro e w1 ⟨u, rfl, ru, hb2⟩; have hb := hb.trans (hb2.mono hb.size); (try have rc := rc.below hb2); (try have rd := rd.below hb2)))
        | (go_at_call 10; refine (A2.out _ hb).mono ?_; rintro e w1 ⟨d, rfl, rd, hb2⟩; have hb := hb.trans (hb2.mono hb.size); (try have rc := rc.below hb2); (try have ru := ru.below hb2))
        | (go_at_call 11; first
          | ((with_reducible refine (SC.out _ _ _ rc rd).mono ?_); rintro e w1 ⟨rfl, hb2⟩; have hb := hb.trans (hb2.mono hb.size); (try have rc := rc.below hb2); (try have ru := ru.below hb2))
          | ((with_reducible refine (SV.out _ _ _ ru (HV.out _ hb)).mono ?_); rintro e w1 ⟨rfl, hb2⟩; have hb := hb.trans (hb2.mono hb.size); (try have rc := rc.below hb2)))
        | (go_at_call 6; refine (AW.out _).mono ?_; rintro e w6 ⟨rfl, hb2⟩; have hb := hb.trans (hb2.mono hb.size)))
      go_ret
      exact ⟨rfl, hb⟩
    · have hg1 : (parseE s.data.toList == 0) = false := by simp [hg]
      generalize parseR s.data.toList = rr at *
      generalize parseE s.data.toList = E at *
      generalize (⟨(printL xs).toArray⟩ : ByteArray) = T at *
      generalize chk xs.length = F at *
      have PB := trivial
      clear h20 h200 hc hg hl hpl hv hw hm hs
      go_enter Tryd.func3, Tryd.ntmps3
      go_wp2_with (first
        | (go_at_call 5; refine FA.out.mono ?_; rintro e w1 ⟨rfl, rfl⟩)
        | (go_at_call 7; first
          | ((with_reducible refine (P1.out _ hb).mono ?_); rintro e w1 ⟨rfl, hb2⟩; have hb := hb.trans (hb2.mono hb.size); (try have rc := rc.below hb2); (try have rd := rd.below hb2); (try have ru := ru.below hb2))
          | ((with_reducible refine (PB.out _ _ rc).mono ?_); rintro e w1 ⟨rfl, hb2⟩; have hb := hb.trans (hb2.mono hb.size); (try have rc := rc.below hb2); (try have rd := rd.below hb2); (try have ru := ru.below hb2)))
        | (go_at_call 8; refine (P2.out _ hb).mono ?_; rintro e w1 ⟨rfl, hb2⟩; have hb := hb.trans (hb2.mono hb.size); (try have rc := rc.below hb2); (try have rd := rd.below hb2); (try have ru := ru.below hb2))
        | (go_at_call 9; first
          | ((with_reducible refine (A1.out _ hb).mono ?_); rintro e w1 ⟨c, rfl, rc, hb2⟩; have hb := hb.trans (hb2.mono hb.size); (try have rd := rd.below hb2); (try have ru := ru.below hb2))
          | ((with_reducible refine (AB.out _ hb).mono ?_); rintro e w1 ⟨u, rfl, ru, hb2⟩; have hb := hb.trans (hb2.mono hb.size); (try have rc := rc.below hb2); (try have rd := rd.below hb2)))
        | (go_at_call 10; refine (A2.out _ hb).mono ?_; rintro e w1 ⟨d, rfl, rd, hb2⟩; have hb := hb.trans (hb2.mono hb.size); (try have rc := rc.below hb2); (try have ru := ru.below hb2))
        | (go_at_call 11; first
          | ((with_reducible refine (SC.out _ _ _ rc rd).mono ?_); rintro e w1 ⟨rfl, hb2⟩; have hb := hb.trans (hb2.mono hb.size); (try have rc := rc.below hb2); (try have ru := ru.below hb2))
          | ((with_reducible refine (SV.out _ _ _ ru (HV.out _ hb)).mono ?_); rintro e w1 ⟨rfl, hb2⟩; have hb := hb.trans (hb2.mono hb.size); (try have rc := rc.below hb2)))
        | (go_at_call 6; refine (AW.out _).mono ?_; rintro e w6 ⟨rfl, hb2⟩; have hb := hb.trans (hb2.mono hb.size)))
      go_ret
      exact ⟨rfl, hb⟩
end Go.Proofs.YtnegnmjjibhldaaDoor
