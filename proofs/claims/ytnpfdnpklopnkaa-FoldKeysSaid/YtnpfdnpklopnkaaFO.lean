/- Layer 4: the reference's Compare. -/
import Derived.Test.YtnpfdnpklopnkaaFN
namespace Go.Proofs.Ytnpfdnpklopnkaa
open Go.RowKit
theorem toList_data (s : ByteArray) : s.toList = s.data.toList := Lib.toList_data s
theorem less_key : ∀ (a b : List UInt8), Op.bytesLess (keyL a) (keyL b) = (cmpK a b == -1)
  | [], [] => rfl
  | [], _ :: _ => rfl
  | _ :: _, [] => rfl
  | x :: xs, y :: ys => by
    have ih := less_key xs ys
    have hx := lowU_nat x
    have hy := lowU_nat y
    rw [show keyL (x :: xs) = lowU x :: keyL xs from rfl, show keyL (y :: ys) = lowU y :: keyL ys from rfl, show Op.bytesLess (lowU x :: keyL xs) (lowU y :: keyL ys) = (decide (lowU x < lowU y) || (lowU x == lowU y && Op.bytesLess (keyL xs) (keyL ys))) from rfl, ih]
    rw [show cmpK (x :: xs) (y :: ys) = if cmpN (lowN x.toNat) (lowN y.toNat) = 0 then cmpK xs ys else cmpN (lowN x.toNat) (lowN y.toNat) from rfl]
    rcases Nat.lt_trichotomy (lowN x.toNat) (lowN y.toNat) with h | h | h
    · have h1 : lowU x < lowU y := UInt8.lt_iff_toNat_lt.2 (by rw [hx, hy]; exact h)
      have h2 : cmpN (lowN x.toNat) (lowN y.toNat) = -1 := by unfold cmpN; rw [if_pos h]
      rw [h2]; simp [h1]
    · have h1 : lowU x = lowU y := UInt8.toNat_inj.1 (by rw [hx, hy]; exact h)
      have h2 : cmpN (lowN x.toNat) (lowN y.toNat) = 0 := cmpN_zero.2 h
      rw [h2, h1]; simp
    · have h1 : ¬ lowU x < lowU y := fun e => by have := UInt8.lt_iff_toNat_lt.1 e; omega
      have h2 : cmpN (lowN x.toNat) (lowN y.toNat) = 1 := by unfold cmpN; rw [if_neg (by omega), if_pos h]
      have h3 : ¬ lowU x = lowU y := fun e => by have := congrArg UInt8.toNat e; omega
      rw [h2]; simp [h1, h3]
theorem keyS_list (s : ByteArray) : (keyS s).toList = keyL s.data.toList := by rw [toList_data]; rfl
theorem eq_key (a b : List UInt8) : (!(keyL a == keyL b)) = (cmpK a b != 0) := by
  rw [Bool.eq_iff_iff]
  have := cmpK_zero a b
  simp [bne_iff_ne, this]
theorem rcompare_any (a b : ByteArray) (w : World) (ha : a.size ≤ 1000000000) (hb : b.size ≤ 1000000000) : Calls Try.prog 31 #[.string a, .string b] w (NumP w (.int .i64 (cmpK a.data.toList b.data.toList))) := by
  have KA := Lib.hid (fun w => rkey_any a w ha)
  have KB := Lib.hid (fun w => rkey_any b w hb)
  go_enter Try.func31, Try.ntmps31
  go_wp2_with (first
    | (go_at_call 29; (with_reducible refine (KA.out _).mono ?_); rintro e w2 ⟨rfl, hb2⟩)
    | (go_at_call 29; (with_reducible refine (KB.out _).mono ?_); rintro e w3 ⟨rfl, hb3⟩))
  all_goals
    simp only [keyS_list, less_key, eq_key] at *
    go_ret
    refine ⟨ret_int ?_, hb2.trans (hb3.mono hb2.size)⟩
    have hc := cmpK_cases a.data.toList b.data.toList
    simp only [beq_iff_eq, beq_eq_false_iff_ne, bne_iff_ne, bne_eq_false_iff_eq] at *
    omega
end Go.Proofs.Ytnpfdnpklopnkaa
