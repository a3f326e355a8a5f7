/- Layer 4: the laws on bytes, and the known ones, walked. -/
import Derived.Test.YtnpfdnpklopnkaaFJ
namespace Go.Proofs.Ytnpfdnpklopnkaa
open Go.RowKit
attribute [local go_sem] eq4 guard4
set_option maxHeartbeats 800000 in
set_option maxRecDepth 100000 in
theorem fbytes_any (a b : Int) (w : World) (ha : 0 ≤ a ∧ a < 256) (hb : 0 ≤ b ∧ b < 256) : Calls Try.prog 3 #[.int .u8 a, .int .u8 b] w fun e w' => e = .returned (.bool true) ∧ Below w.heap.size w w' := by
  obtain ⟨x, rfl⟩ : ∃ x : Nat, a = x := ⟨a.toNat, by omega⟩
  obtain ⟨y, rfl⟩ : ∃ y : Nat, b = y := ⟨b.toNat, by omega⟩
  have hx : x < 256 := by omega
  have hy : y < 256 := by omega
  clear ha hb
  have S := Lib.hid (fun w => same_any x y w hx hy)
  have RS := Lib.hid (fun w => rsame_any x y w hx hy)
  have L := Lib.hid (fun w => lower_any x w hx)
  have RL := Lib.hid (fun w => rlower_any x w hx)
  have B := Lib.hid (fun w => both_any x w hx)
  have RB := Lib.hid (fun w => rboth_any x w hx)
  have SH := Lib.hid shown_any
  have e1 := eqS_self (bothP x)
  have hb : Below w.heap.size w w := Below.refl _ _
  generalize sameN x y = s at *
  generalize bothP x = q at *
  generalize lowN x = l at *
  clear hx hy
  go_enter Try.func3, Try.ntmps3
  go_wp2_with (first
    | (go_at_call 11; (with_reducible refine (S.out _).mono ?_); rintro e w2 ⟨rfl, hb2⟩; replace hb := hb.trans (hb2.mono hb.size); clear hb2)
    | (go_at_call 12; (with_reducible refine (RS.out _).mono ?_); rintro e w' ⟨rfl, rfl⟩)
    | (go_at_call 13; (with_reducible refine (L.out _).mono ?_); rintro e w3 ⟨rfl, hb2⟩; replace hb := hb.trans (hb2.mono hb.size); clear hb2)
    | (go_at_call 14; (with_reducible refine (RL.out _).mono ?_); rintro e w' ⟨rfl, rfl⟩)
    | (go_at_call 15; (with_reducible refine (B.out _).mono ?_); rintro e w4 ⟨rfl, hb2⟩; replace hb := hb.trans (hb2.mono hb.size); clear hb2)
    | (go_at_call 16; (with_reducible refine (RB.out _).mono ?_); rintro e w5 ⟨rfl, hb2⟩; replace hb := hb.trans (hb2.mono hb.size); clear hb2)
    | (go_at_call 17; (with_reducible refine (SH.out _).mono ?_); rintro e w6 ⟨rfl, hb2⟩; replace hb := hb.trans (hb2.mono hb.size); clear hb2)
    )
  go_ret
  exact ⟨rfl, hb⟩
end Go.Proofs.Ytnpfdnpklopnkaa
