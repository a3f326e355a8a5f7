/- Layer 4: the reference's All, Find; the law on finds. -/
import Derived.Test.YtnpfdnpklopnkaaFN
namespace Go.Proofs.Ytnpfdnpklopnkaa
open Go.RowKit
theorem ext_part {t s : ByteArray} {k : Nat} : (t.extract k (k + s.size)).data.toList = (t.data.toList.drop k).take s.size := by rw [Lib.extract_data, Nat.add_sub_cancel_left]
set_option maxHeartbeats 800000 in
set_option maxRecDepth 100000 in
theorem rall_any4 (t s : ByteArray) (w : World) (ht : t.size ≤ 1000000000) (hs : s.size ≤ 1000000000) : Calls Try.prog 36 #[.string t, .string s] w (AllPost w t s) := by
  rcases hlb : longB t s with _ | _
  · have R := Lib.hid (show allL t s = placesL t s by unfold allL; rw [hlb]; rfl)
    have E := Lib.hid (show allE t s = 0 by unfold allE; rw [hlb]; rfl)
    unfold longB at hlb
    simp only [Bool.or_eq_false_iff, decide_eq_false_iff_not] at hlb
    have h1 : decide ((512 : Int) < (s.size : Int)) = false := decide_eq_false (by omega)
    have h2 : decide ((4096 : Int) < (t.size : Int)) = false := decide_eq_false (by omega)
    have hs1 : s.size ≤ 512 := by omega
    have ht1 : t.size ≤ 4096 := by omega
    obtain ⟨i0, hi, hz0, hz1, hz2⟩ := info_parts info_i64
    obtain ⟨m, hm⟩ : ∃ m, m = t.size + 1 - s.size := ⟨_, rfl⟩
    have HP := Lib.hid (show placesL t s = (List.range m).filter (atB t s) by rw [hm]; rfl)
    have hm1 : m ≤ 4097 := by omega
    have hm2 : ∀ k, k < m ↔ k + s.size ≤ t.size := fun k => by omega
    have HM := Lib.hid hm2
    clear hlb hm hm2
    go_enter Try.func36, Try.ntmps36
    go_wp2
    go_loopw [6, 7] (fun v i wr => ∃ k n : Nat, k ≤ m ∧ n ≤ k ∧ i = .int .i64 (k : Int) ∧ wr.ownsRow w.heap.size 3 1 v n (((List.range k).filter (atB t s)).map i64n) ∧ Below w.heap.size w wr) (fun _ i _ => m - (intOf i).toNat)
    case atStart => exact ⟨0, 0, Nat.zero_le _, Nat.le_refl _, rfl, World.ownsRow_nil _ _ _ _, Below.refl _ _⟩
    case round =>
      obtain ⟨k, n, hk, hnk, rfl, ho, hB⟩ := hrel
      have hw1 : IntKind.i64.wrap ((k : Int) + (s.size : Int)) = (k : Int) + (s.size : Int) := by rw [IntWalk.i64_in _ (by omega)]
      by_cases hlt : k < m
      · have hle := (HM.out k).1 hlt
        have hltb : decide ((k : Int) + (s.size : Int) ≤ (t.size : Int)) = true := decide_eq_true (by omega)
        have hs0 : 0 ≤ (k : Int) + (s.size : Int) ∧ (k : Int) + (s.size : Int) ≤ (t.size : Int) := by omega
        have hs2 : (k : Int) ≤ (k : Int) + (s.size : Int) := by omega
        have hs3 : ((k : Int) + (s.size : Int)).toNat = k + s.size := by omega
        have hz : (t.extract k (k + s.size)).size ≤ 1000000000 := by
          have : (t.extract k (k + s.size)).data.toList.length = _ := congrArg List.length (ext_part (s := s))
          rw [length_data, List.length_take] at this; omega
        have AL := fun w => ralike_any (t.extract k (k + s.size)) s w hz
        rw [ext_part] at AL
        rw [show alikeL ((t.data.toList.drop k).take s.size) s.data.toList = atB t s k from rfl] at AL
        rcases hb : atB t s k with _ | _
        · simp only [hb] at AL
          replace AL := Lib.hid AL
          have HF := Lib.hid (upto_no hb)
          clear hb hz
          go_wp2_with (go_at_call 27; (with_reducible refine (AL.out _).mono ?_); rintro e w2 ⟨rfl, hb2⟩)
          go_roundw
          case rel => exact ⟨k + 1, n, by omega, by omega, by go_num, by rw [HF.out]; exact own_from ho (grown_of hb2) (fun r e => by cases e) (n0 := 0), hB.trans (hb2.mono hB.size)⟩
          case measure => simp [intOf]; omega
        · simp only [hb] at AL
          replace AL := Lib.hid AL
          have HF := Lib.hid (upto_yes hb)
          clear hb hz
          go_wp2_with (first
            | (go_at_call 27; (with_reducible refine (AL.out _).mono ?_); rintro e w2 ⟨rfl, hb2⟩; have o2 := own_from ho (grown_of hb2) (fun r e => by cases e) (n0 := 0); have B2 := hB.trans (hb2.mono hB.size); have l2 := B2.size; clear ho hB)
            | (at_builtin; refine wpList_append_own _ rfl _ _ 41 rfl w.heap.size 3 i0 (.int .i64 0) 1 8 Try.underlying41 hi hz0 hz1 hz2 rfl (by decide) _ n _ rfl (o2.alloc _) ⟨w2.heap.size, 0, none⟩ 1 1 [.int .i64 (k : Int)] rfl rfl (cell_one_new _ _ _) (by simp [Value.oneCell']) (by simp only [maxLen]; omega) (by omega) (by simp; omega) ?_; intro v' w4 hown' hgrow _))
          go_roundw
          case rel => exact ⟨k + 1, n + 1, by omega, by omega, by go_num, by rw [HF.out, List.map_append]; exact hown', (B2.alloc l2 _).grown hgrow (by simp; omega) (fun j hj => (o2.lt j hj).1)⟩
          case measure => simp [intOf]; omega
      · have hle := mt (HM.out k).2 hlt
        have hltb : decide ((k : Int) + (s.size : Int) ≤ (t.size : Int)) = false := decide_eq_false (by omega)
        obtain rfl : k = m := by omega
        have hn : n = (placesL t s).length := by have := ho.1; rw [HP.out]; simp at this; omega
        subst hn
        go_wp2
        go_ret2
        exact ⟨_, by rw [E.out]; rfl, by rw [R.out]; exact NR.own (by rw [HP.out] at ho ⊢; exact ho), hB⟩
  · have R := Lib.hid (show allL t s = [] by unfold allL; rw [hlb]; rfl)
    have E := Lib.hid (show allE t s = 3 by unfold allE; rw [hlb]; rfl)
    unfold longB at hlb
    simp only [Bool.or_eq_true, decide_eq_true_eq] at hlb
    by_cases h : 512 < s.size
    · have h1 : decide ((512 : Int) < (s.size : Int)) = true := decide_eq_true (by omega)
      clear hlb h
      go_enter Try.func36, Try.ntmps36
      go_wp2
      go_ret2
      exact ⟨_, by rw [E.out]; rfl, by rw [R.out]; exact NR.nil _, Below.refl _ _⟩
    · have h1 : decide ((512 : Int) < (s.size : Int)) = false := decide_eq_false (by omega)
      have h2 : decide ((4096 : Int) < (t.size : Int)) = true := decide_eq_true (by omega)
      clear hlb h
      go_enter Try.func36, Try.ntmps36
      go_wp2
      go_ret2
      exact ⟨_, by rw [E.out]; rfl, by rw [R.out]; exact NR.nil _, Below.refl _ _⟩
theorem findV_all (t s : ByteArray) : findV t s = (match allL t s with | [] => (0, if longB t s then 3 else 4) | x :: _ => (x, 0)) := by
  unfold findV allL
  split
  · rfl
  · rfl
theorem allE_long (t s : ByteArray) : (allE t s != 0) = longB t s := by unfold allE; cases longB t s <;> rfl
set_option maxRecDepth 100000 in
theorem rfind_any (t s : ByteArray) (w : World) (ht : t.size ≤ 1000000000) (hs : s.size ≤ 1000000000) : Calls Try.prog 34 #[.string t, .string s] w (FindPost w t s) := by
  have AL := fun w => rall_any4 t s w ht hs
  have FV := findV_all t s
  rcases hlb : longB t s with _ | _
  · have E := show allE t s = 0 by unfold allE; rw [hlb]; rfl
    unfold AllPost at AL
    simp only [E] at AL
    replace AL := Lib.hid AL
    simp only [hlb] at FV
    have hlen : (allL t s).length ≤ 2000000000 := by
      have := placesL_len t s
      unfold allL; rw [hlb]; simp only [Bool.false_eq_true, if_false]; omega
    rcases hl : allL t s with _ | ⟨x, r⟩
    · rw [hl] at FV AL
      have F := Lib.hid FV
      clear FV hl hlb E
      go_enter Try.func34, Try.ntmps34
      go_wp2_with (go_at_call 36; (with_reducible refine (AL.out _).mono ?_); rintro e w2 ⟨v, rfl, ⟨p, c, rfl, _, _⟩, hb2⟩)
      go_ret2
      exact ⟨by rw [F.out]; rfl, hb2⟩
    · rw [hl] at FV AL hlen
      have F := Lib.hid FV
      clear FV hl hlb E
      go_enter Try.func34, Try.ntmps34
      have hne : (((r.length : Int) + 1) == 0) = false := by rw [beq_eq_false_iff_ne]; omega
      have hlt0 : (0 : Int) < (r.length : Int) + 1 := by omega
      go_wp2_with (go_at_call 36; (with_reducible refine (AL.out _).mono ?_); rintro e w2 ⟨v, rfl, hv, hb2⟩; obtain ⟨b, o, c, rfl, hbl, hx⟩ := hv.form (by simp); have hx0 : w2.cell? ⟨b, o, none⟩ = some (.int .i64 (x : Int)) := hx 0 x rfl; clear hx hv)
      go_ret2
      exact ⟨by rw [F.out]; rfl, hb2⟩
  · have E := show allE t s = 3 by unfold allE; rw [hlb]; rfl
    unfold AllPost at AL
    simp only [E] at AL
    replace AL := Lib.hid AL
    have F := Lib.hid (show findV t s = (0, 3) by unfold findV; rw [hlb]; rfl)
    clear FV hlb E
    go_enter Try.func34, Try.ntmps34
    go_wp2_with (go_at_call 36; (with_reducible refine (AL.out _).mono ?_); rintro e w2 ⟨v, rfl, hv, hb2⟩)
    go_ret2
    exact ⟨by rw [F.out]; rfl, hb2⟩
set_option maxHeartbeats 1600000 in
set_option maxRecDepth 100000 in
theorem ffinds_any (t s : ByteArray) (w : World) : Calls Try.prog 6 #[.string t, .string s] w fun e w' => e = .returned (.bool true) ∧ Below w.heap.size w w' := by
  have SH := Lib.hid shown_any
  have hb := Below.refl w.heap.size w
  by_cases h1 : 300 < t.size ∧ t.size ≤ 4096
  · have hb1 : decide ((300 : Int) < (t.size : Int)) = true := decide_eq_true (by omega)
    have hb2 : decide ((t.size : Int) ≤ 4096) = true := decide_eq_true (by omega)
    clear h1
    go_enter Try.func6, Try.ntmps6
    go_wp2_with (first
      | (go_at_call 17; (with_reducible refine (SH.out _).mono ?_); rintro e w9 ⟨rfl, hb2⟩; replace hb := hb.trans (hb2.mono hb.size); clear hb2)
      )
    go_ret
    exact ⟨rfl, hb⟩
  by_cases h2 : 4200 < t.size
  · have hb1 : decide ((300 : Int) < (t.size : Int)) = true := decide_eq_true (by omega)
    have hb2 : decide ((t.size : Int) ≤ 4096) = false := decide_eq_false (by omega)
    have hb3 : decide ((4200 : Int) < (t.size : Int)) = true := decide_eq_true (by omega)
    clear h1 h2
    go_enter Try.func6, Try.ntmps6
    go_wp2_with (first
      | (go_at_call 17; (with_reducible refine (SH.out _).mono ?_); rintro e w9 ⟨rfl, hb2⟩; replace hb := hb.trans (hb2.mono hb.size); clear hb2)
      )
    go_ret
    exact ⟨rfl, hb⟩
  have hb3 : decide ((4200 : Int) < (t.size : Int)) = false := decide_eq_false (by omega)
  by_cases h3 : 600 < s.size
  · have hb4 : decide ((600 : Int) < (s.size : Int)) = true := decide_eq_true (by omega)
    rcases (by omega : t.size ≤ 300 ∨ 4096 < t.size) with h4 | h4
    · have hb1 : decide ((300 : Int) < (t.size : Int)) = false := decide_eq_false (by omega)
      clear h1 h2 h3 h4
      go_enter Try.func6, Try.ntmps6
      go_wp2_with (first
        | (go_at_call 17; (with_reducible refine (SH.out _).mono ?_); rintro e w9 ⟨rfl, hb2⟩; replace hb := hb.trans (hb2.mono hb.size); clear hb2)
        )
      go_ret
      exact ⟨rfl, hb⟩
    · have hb1 : decide ((300 : Int) < (t.size : Int)) = true := decide_eq_true (by omega)
      have hb2 : decide ((t.size : Int) ≤ 4096) = false := decide_eq_false (by omega)
      clear h1 h2 h3 h4
      go_enter Try.func6, Try.ntmps6
      go_wp2_with (first
        | (go_at_call 17; (with_reducible refine (SH.out _).mono ?_); rintro e w9 ⟨rfl, hb2⟩; replace hb := hb.trans (hb2.mono hb.size); clear hb2)
        )
      go_ret
      exact ⟨rfl, hb⟩
  have hb4 : decide ((600 : Int) < (s.size : Int)) = false := decide_eq_false (by omega)
  have AL := Lib.hid (fun w => all_any t s w (by omega) (by omega))
  have RA := Lib.hid (fun w => rall_any4 t s w (by omega) (by omega))
  have FI := Lib.hid (fun w => find_any t s w (by omega) (by omega))
  have RF := Lib.hid (fun w => rfind_any t s w (by omega) (by omega))
  have hlen : (allL t s).length ≤ 2000000000 := by
    have := placesL_len t s
    unfold allL; split
    · simp
    · omega
  have IN := Lib.hid (fun v u w hv hu => ints_any v u (allL t s) (allL t s) w hv hu hlen hlen)
  have eb : (allL t s == allL t s) = true := by simp
  rw [eb] at IN
  clear eb hlen
  rcases (by omega : t.size ≤ 300 ∨ 4096 < t.size) with h4 | h4
  all_goals
    first
    | have hb1 : decide ((300 : Int) < (t.size : Int)) = false := decide_eq_false (by omega)
    | (have hb1 : decide ((300 : Int) < (t.size : Int)) = true := decide_eq_true (by omega)
       have hb2 : decide ((t.size : Int) ≤ 4096) = false := decide_eq_false (by omega))
    clear h1 h2 h3 h4
    go_enter Try.func6, Try.ntmps6
    go_wp2_with (first
      | (go_at_call 33; refine (FI.out _).mono ?_; rintro e w2 ⟨rfl, hb2⟩; replace hb := hb.trans (hb2.mono hb.size); clear hb2)
      | (go_at_call 34; refine (RF.out _).mono ?_; rintro e w3 ⟨rfl, hb2⟩; replace hb := hb.trans (hb2.mono hb.size); clear hb2)
      | (go_at_call 35; refine (AL.out _).mono ?_; rintro e w4 ⟨v, rfl, hv, hb2⟩; replace hb := hb.trans (hb2.mono hb.size); clear hb2)
      | (go_at_call 36; refine (RA.out _).mono ?_; rintro e w5 ⟨u, rfl, hu, hb2⟩; replace hb := hb.trans (hb2.mono hb.size); (try replace hv := hv.below hb2); clear hb2)
      | (go_at_call 37; refine (IN.out _ _ _ hv hu).mono ?_; rintro e w6 ⟨rfl, hb2⟩; replace hb := hb.trans (hb2.mono hb.size); clear hb2)
      | (go_at_call 17; (with_reducible refine (SH.out _).mono ?_); rintro e w9 ⟨rfl, hb2⟩; replace hb := hb.trans (hb2.mono hb.size); clear hb2)
      )
    go_ret
    exact ⟨rfl, hb⟩
end Go.Proofs.Ytnpfdnpklopnkaa
