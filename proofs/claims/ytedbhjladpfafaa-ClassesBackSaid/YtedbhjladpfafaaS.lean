/- Layer 3: readByte, readPart. -/
import Derived.Test.YtedbhjladpfafaaQ
namespace Go.Proofs.Ytedbhjladpfafaa
open Go.RowKit
/-- The byte that is written at k. -/
def oneB (l : List UInt8) (k : Nat) : Nat × Nat × Bool :=
  match l[skipN l k 92]? with
  | none => (0, skipN l k 92, false)
  | some c => if (skipB l k 92 && c == 120) then hexB l (skipN l k 92 + 1) else if ((skipB l k 92 == markB c.toNat) && plainB c.toNat) then (c.toNat, skipN l k 92 + 1, true) else (0, skipN l k 92, false)
theorem skipN_le {l : List UInt8} {k : Nat} {b : UInt8} (h : k ≤ l.length) : skipN l k b ≤ l.length := by
  unfold skipN skipB
  cases e : l[k]? with
  | none => simp; exact h
  | some c =>
    have := (List.getElem?_eq_some_iff.1 e).1
    split <;> omega
set_option maxHeartbeats 400000 in
theorem readByte_any (s : ByteArray) (k : Nat) (w : World) (hk : k ≤ s.size) (hs : s.size ≤ 1000000000) :
    Calls Try.prog 54 #[.string s, .int .i64 (k : Int)] w fun e w' => e = .returned (ByteVal (oneB s.data.toList k)) ∧ w = w' := by
  have SK := fun w => skip_any s k 92 w (by omega)
  have hml := skipN_le (l := s.data.toList) (b := 92) (by rw [length_data]; exact hk)
  rw [length_data] at hml
  obtain ⟨R, hR⟩ : ∃ R, R = oneB s.data.toList k := ⟨_, rfl⟩
  rw [← hR]
  unfold oneB at hR
  obtain ⟨m, hm⟩ : ∃ m, m = skipN s.data.toList k 92 := ⟨_, rfl⟩
  obtain ⟨b, hb⟩ : ∃ b, b = skipB s.data.toList k 92 := ⟨_, rfl⟩
  rw [← hm] at SK hR hml
  rw [← hb] at SK hR
  clear hm hb
  by_cases hend : m = s.size
  · subst hend
    rw [List.getElem?_eq_none (by rw [length_data]; omega)] at hR
    have HR := Lib.hid hR
    replace SK := Lib.hid SK
    clear hR
    go_enter Try.func54, Try.ntmps54
    go_wp2_with (go_at_call 50; refine (SK.out _).mono ?_; rintro e w2 ⟨rfl, rfl⟩)
    refine bodyPost_ret (results_tmp3 rfl _ _ _) rfl ?_
    exact ⟨by rw [HR.out]; rfl, rfl⟩
  · have heq : ((m : Int) == (s.size : Int)) = false := beq_eq_false_iff_ne.2 (by omega)
    have hlt : m < s.size := by omega
    obtain ⟨c, hc⟩ : ∃ c, s.data.toList[m]? = some c := ⟨_, List.getElem?_eq_getElem (by rw [length_data]; omega)⟩
    rw [hc] at hR
    simp only at hR
    have hix := fun w => str_ix s m c hc w
    have hw1 : IntKind.i64.wrap ((m : Int) + 1) = (m : Int) + 1 := IntWalk.i64_in _ (by omega)
    have RH := Lib.hid (fun w => readHex_any s (m + 1) w (by omega) hs)
    have IM := fun w => isMark_any c.toNat w c.toNat_lt
    have IP := fun w => isPlain_any c.toNat w
    cases b with
    | true =>
      by_cases hx : c = 120
      · subst hx
        rw [if_pos (by decide)] at hR
        have HR := Lib.hid hR
        replace SK := Lib.hid SK
        clear hR hc IM IP
        go_enter Try.func54, Try.ntmps54
        go_wp2_with (first
          | (go_at_call 50; refine (SK.out _).mono ?_; rintro e w2 ⟨rfl, rfl⟩)
          | (go_at_call 57; refine (RH.out _).mono ?_; rintro e w2 ⟨rfl, rfl⟩))
        refine bodyPost_ret (results_tmp3 rfl _ _ _) rfl ?_
        exact ⟨by rw [HR.out]; rfl, rfl⟩
      · rw [if_neg (by simpa using hx)] at hR
        have hxe : ((c.toNat : Int) == 120) = false := by
          rw [beq_eq_false_iff_ne]; intro e; exact hx (UInt8.toNat_inj.1 (by have : (120 : UInt8).toNat = 120 := rfl
                                                                             omega))
        clear RH hx
        rcases hmk : markB c.toNat with _ | _
        all_goals
          rcases hpl : plainB c.toNat with _ | _
          all_goals
            rw [hmk, hpl] at hR
            simp only [hmk] at IM
            simp only [hpl] at IP
            have HR := Lib.hid (by simpa using hR : _)
            replace SK := Lib.hid SK
            replace IM := Lib.hid IM
            replace IP := Lib.hid IP
            clear hR hc hmk hpl
            go_enter Try.func54, Try.ntmps54
            go_wp2_with (first
              | (go_at_call 50; refine (SK.out _).mono ?_; rintro e w2 ⟨rfl, rfl⟩)
              | (go_at_call 55; refine (IM.out _).mono ?_; rintro e w2 ⟨rfl, rfl⟩)
              | (go_at_call 56; refine (IP.out _).mono ?_; rintro e w2 ⟨rfl, rfl⟩))
            refine bodyPost_ret (results_tmp3 rfl _ _ _) rfl ?_
            exact ⟨by rw [HR.out]; rfl, rfl⟩
    | false =>
      rw [if_neg (by simp)] at hR
      clear RH
      rcases hmk : markB c.toNat with _ | _
      all_goals
        rcases hpl : plainB c.toNat with _ | _
        all_goals
          rw [hmk, hpl] at hR
          simp only [hmk] at IM
          simp only [hpl] at IP
          have HR := Lib.hid (by simpa using hR : _)
          replace SK := Lib.hid SK
          replace IM := Lib.hid IM
          replace IP := Lib.hid IP
          clear hR hc hmk hpl
          go_enter Try.func54, Try.ntmps54
          go_wp2_with (first
            | (go_at_call 50; refine (SK.out _).mono ?_; rintro e w2 ⟨rfl, rfl⟩)
            | (go_at_call 55; refine (IM.out _).mono ?_; rintro e w2 ⟨rfl, rfl⟩)
            | (go_at_call 56; refine (IP.out _).mono ?_; rintro e w2 ⟨rfl, rfl⟩))
          refine bodyPost_ret (results_tmp3 rfl _ _ _) rfl ?_
          exact ⟨by rw [HR.out]; rfl, rfl⟩
end Go.Proofs.Ytedbhjladpfafaa
