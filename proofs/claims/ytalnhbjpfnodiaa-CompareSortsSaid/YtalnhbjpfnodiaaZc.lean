/- What is asked before the steps. -/
import Derived.Test.YtalnhbjpfnodiaaZb
namespace Go.Proofs.Ytalnhbjpfnodiaa
open Go.RowKit
/-- The first error of some cells, or rows. -/
def hasF (f : Int → Int) : List Int → Int
  | [] => 0
  | x :: r => if f x = 0 then hasF f r else f x
def ckF (m : Nat) (f : Int → Int) (rm : Int) (l : List Int) : Int := if isM m then (if hasF f l = 0 then rm else hasF f l) else 2
theorem hasF_zero {f : Int → Int} {l : List Int} {k : Nat} {x : Int} (hx : l[k]? = some x) (h0 : f x = 0) : hasF f (l.drop k) = hasF f (l.drop (k + 1)) := by
  obtain ⟨hk, rfl⟩ := List.getElem?_eq_some_iff.1 hx
  rw [List.drop_eq_getElem_cons hk, hasF, if_pos h0]
theorem hasF_hit {f : Int → Int} {l : List Int} {k : Nat} {x : Int} (hx : l[k]? = some x) (h0 : ¬ f x = 0) : hasF f (l.drop k) = f x := by
  obtain ⟨hk, rfl⟩ := List.getElem?_eq_some_iff.1 hx
  rw [List.drop_eq_getElem_cons hk, hasF, if_neg h0]
abbrev i64R (x : Int) : Prop := -9223372036854775808 ≤ x ∧ x ≤ 9223372036854775807
set_option maxRecDepth 100000 in
theorem asked_any (P : Value) (f : Int → Int) (rm : Int) (m b : Nat) (st q : Int) (l : List Int) (w : World) (hm : m < 2 ^ 64) (hlen : l.length ≤ 100) (hr : ∀ x ∈ l, i64R x)
    (hcell : ∀ i x, l[i]? = some x → w.cell? ⟨b, i, none⟩ = some (.int .i64 x))
    (ha : ∀ x, i64R x → Calls Try.prog 71 #[P, .int .i64 x, .int .i64 q] w fun e w' => e = .returned (.int .i64 (f x)) ∧ w = w')
    (hrm : Calls Try.prog 69 #[P, .int .i64 st] w fun e w' => e = .returned (.int .i64 rm) ∧ w = w') :
    Calls Try.prog 96 #[P, .int .u64 (m : Int), .slice (some ⟨b, 0, none⟩) l.length l.length, .int .i64 q, .int .i64 st] w fun e w' => e = .returned (.int .i64 (ckF m f rm l)) ∧ w = w' := by
  by_cases hM : isM m
  · have IS := Lib.hid (ris_any m w hm)
    rw [decide_eq_true hM] at IS
    have HK : Hid (ckF m f rm l = if hasF f l = 0 then rm else hasF f l) := Lib.hid (if_pos hM)
    obtain ⟨n, hn⟩ : ∃ n, n = l.length := ⟨_, rfl⟩
    rw [← hn] at hlen ⊢
    have HN := Lib.hid hn
    have HC := Lib.hid hcell
    have HA := Lib.hid ha
    have RO := Lib.hid hrm
    have HR := Lib.hid hr
    clear hn hcell ha hrm hM hr
    go_enter Try.func96, Try.ntmps96
    go_wp2_with (first
      | (go_at_call 95; (with_reducible refine (IS.out).mono ?_); rintro e w' ⟨rfl, rfl⟩))
    go_loopw [11] (fun i wr => ∃ k : Nat, k ≤ n ∧ i = .int .i64 (k : Int) ∧ wr = w ∧ Hid (hasF f l = hasF f (l.drop k))) (fun i _ => n - (intOf i).toNat)
    case atStart => exact ⟨0, Nat.zero_le _, rfl, rfl, Lib.hid rfl⟩
    case round =>
      obtain ⟨k, hk, rfl, rfl, hd⟩ := hrel
      by_cases hlt : k < n
      · have t1 : decide ((k : Int) < (n : Int)) = true := decide_eq_true (by omega)
        have t1' : (k : Int) < (n : Int) := by omega
        obtain ⟨x, hx⟩ : ∃ x, l[k]? = some x := ⟨_, List.getElem?_eq_getElem (by rw [← HN.out]; exact hlt)⟩
        have x0 := HC.out k x hx
        have A0 := Lib.hid (HA.out x (HR.out x (List.mem_of_getElem? hx)))
        obtain ⟨z, hz⟩ : ∃ z, z = f x := ⟨_, rfl⟩
        rw [← hz] at A0
        by_cases hz0 : z = 0
        · have HD := Lib.hid (hd.out.trans (hasF_zero hx (hz ▸ hz0)))
          subst hz0
          clear hx hz hd
          go_wp2_with (first
            | (go_at_call 71; (with_reducible refine (A0.out).mono ?_); rintro e w' ⟨rfl, rfl⟩))
          go_roundw
          case rel => exact ⟨k + 1, by omega, by go_num, by trivial, HD⟩
          case measure => simp [intOf]; omega
        · have HD := Lib.hid (hd.out.trans (hasF_hit hx (hz ▸ hz0)))
          rw [← hz] at HD
          have t2 : (z != 0) = true := by rw [bne_iff_ne]; exact hz0
          have Z0 := Lib.hid hz0
          clear hx hz hd hz0
          go_wp2_with (first
            | (go_at_call 71; (with_reducible refine (A0.out).mono ?_); rintro e w' ⟨rfl, rfl⟩))
          go_ret
          exact ⟨by rw [HK.out, HD.out, if_neg Z0.out]; rfl, rfl⟩
      · obtain rfl : k = n := by omega
        have t1 : decide ((k : Int) < (k : Int)) = false := decide_eq_false (by omega)
        have HD : Hid (hasF f l = 0) := Lib.hid (hd.out.trans (by rw [List.drop_eq_nil_of_le (by rw [HN.out]; exact Nat.le_refl _)]; rfl))
        clear hd
        go_wp2_with (first
          | (go_at_call 69; (with_reducible refine (RO.out).mono ?_); rintro e w' ⟨rfl, rfl⟩))
        go_ret
        exact ⟨by rw [HK.out, HD.out, if_pos rfl]; rfl, rfl⟩
  · have IS := Lib.hid (ris_any m w hm)
    rw [decide_eq_false hM] at IS
    have hck : ckF m f rm l = 2 := if_neg hM
    rw [hck]
    clear hcell ha hrm hck hr
    go_enter Try.func96, Try.ntmps96
    go_wp2_with (first
      | (go_at_call 95; (with_reducible refine (IS.out).mono ?_); rintro e w' ⟨rfl, rfl⟩))
    go_ret
    exact ⟨rfl, rfl⟩
end Go.Proofs.Ytalnhbjpfnodiaa
