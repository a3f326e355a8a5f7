/- Layer 4: the laws on bytes, and the known ones, walked. -/
import Derived.Test.YtnpfdnpklopnkaaFJ
namespace Go.Proofs.Ytnpfdnpklopnkaa
open Go.RowKit
attribute [local go_sem] eq4 guard4
set_option maxHeartbeats 800000 in
set_option maxRecDepth 100000 in
theorem fbytes_any (a b : Int) (w : World) (ha : 0 ≤ a ∧ a < 256) (hb : 0 ≤ b ∧ b < 256) : Calls Try.prog 3 #[.int .u8 a, .int .u8 b] w fun e w' => e = .returned (.bool true) ∧ Below w.heap.size w w' := by
  obtain ⟨x, rfl⟩ : ∃ x : Nat, a = x := ⟨a.toNat, by omega⟩
  obtain ⟨y, rfl⟩ : ∃ y : Nat, b = y := ⟨b.toNat, by omega⟩
  have hx : x < 256 := by omega
  have hy : y < 256 := by omega
  clear ha hb
  have S := Lib.hid (fun w => same_any x y w hx hy)
  have RS := Lib.hid (fun w => rsame_any x y w hx hy)
  have L := Lib.hid (fun w => lower_any x w hx)
  have RL := Lib.hid (fun w => rlower_any x w hx)
  have B := Lib.hid (fun w => both_any x w hx)
  have RB := Lib.hid (fun w => rboth_any x w hx)
  have SH := Lib.hid shown_any
  have e1 := eqS_self (bothP x)
  have hb : Below w.heap.size w w := Below.refl _ _
  generalize sameN x y = s at *
  generalize bothP x = q at *
  generalize lowN x = l at *
  clear hx hy
  go_enter Try.func3, Try.ntmps3
  go_wp2_with (first
    | (go_at_call 11; (with_reducible refine (S.out _).mono ?_); rintro e w2 ⟨rfl, hb2⟩; replace hb := hb.trans (hb2.mono hb.size); clear hb2)
    | (go_at_call 12; (with_reducible refine (RS.out _).mono ?_); rintro e w' ⟨rfl, rfl⟩)
    | (go_at_call 13; (with_reducible refine (L.out _).mono ?_); rintro e w3 ⟨rfl, hb2⟩; replace hb := hb.trans (hb2.mono hb.size); clear hb2)
    | (go_at_call 14; (with_reducible refine (RL.out _).mono ?_); rintro e w' ⟨rfl, rfl⟩)
    | (go_at_call 15; (with_reducible refine (B.out _).mono ?_); rintro e w4 ⟨rfl, hb2⟩; replace hb := hb.trans (hb2.mono hb.size); clear hb2)
    | (go_at_call 16; (with_reducible refine (RB.out _).mono ?_); rintro e w5 ⟨rfl, hb2⟩; replace hb := hb.trans (hb2.mono hb.size); clear hb2)
    | (go_at_call 17; (with_reducible refine (SH.out _).mono ?_); rintro e w6 ⟨rfl, hb2⟩; replace hb := hb.trans (hb2.mono hb.size); clear hb2)
    )
  go_ret
  exact ⟨rfl, hb⟩
abbrev sc1 : ByteArray := ⟨#[99]⟩
theorem kn_all (w : World) : Calls Try.prog 35 #[.string sxA, .string saB] w fun e w' => ∃ v, e = .returned (.tuple #[v, .int .i64 0]) ∧ NR w' v [1, 3] ∧ Below w.heap.size w w' :=
  (all_any sxA saB w (by decide) (by decide)).mono fun _ _ h => by
    obtain ⟨v, h1, h2, h3⟩ := h
    rw [show allL sxA saB = [1, 3] by decide +kernel] at h2
    rw [show allE sxA saB = 0 by decide +kernel] at h1
    exact ⟨v, h1, h2, h3⟩
theorem kn_find (w : World) : Calls Try.prog 33 #[.string sab, .string sc1] w (NumP w (.tuple #[.int .i64 0, .int .i64 4])) :=
  (find_any sab sc1 w (by decide) (by decide)).mono fun _ _ h => ⟨by rw [h.1, show findV sab sc1 = (0, 4) by decide +kernel]; rfl, h.2⟩
theorem kn_lower1 (w : World) : Calls Try.prog 13 #[.int .u8 81] w (NumP w (.int .u8 113)) := lower_any 81 w (by decide)
theorem kn_lower2 (w : World) : Calls Try.prog 13 #[.int .u8 91] w (NumP w (.int .u8 91)) := lower_any 91 w (by decide)
theorem kn_of2 (B : Nat) (W : World) (hB : B = W.heap.size) : Calls Try.prog 43 #[.slice (some ⟨B, 0, none⟩) 2 2] (W.alloc (.cells #[.int .u8 97, .int .u8 49] 5 (2, 3))) (SetPost (W.alloc (.cells #[.int .u8 97, .int .u8 49] 5 (2, 3))) (ofL [97, 49])) :=
  hB ▸ rof_any _ [97, 49] _ (BR.lit W [97, 49] (2, 3) (by decide)) (by decide)
theorem kn_of3 (B : Nat) (W : World) (hB : B = W.heap.size) : Calls Try.prog 43 #[.slice (some ⟨B, 0, none⟩) 3 3] (W.alloc (.cells #[.int .u8 65, .int .u8 49, .int .u8 97] 5 (3, 4))) (SetPost (W.alloc (.cells #[.int .u8 65, .int .u8 49, .int .u8 97] 5 (3, 4))) (ofL [65, 49, 97])) :=
  hB ▸ rof_any _ [65, 49, 97] _ (BR.lit W [65, 49, 97] (3, 4) (by decide)) (by decide)
theorem kn_close : eqS (closeP (ofL [97, 49])) (ofL [65, 49, 97]) = true := by decide +kernel
theorem kn_ints (v : Value) (B : Nat) (W : World) (hB : B = W.heap.size) (hv : NR W v [1, 3]) : Calls Try.prog 37 #[v, .slice (some ⟨B, 0, none⟩) 2 2] (W.alloc (.cells #[.int .i64 1, .int .i64 3] 3)) (NumP (W.alloc (.cells #[.int .i64 1, .int .i64 3] 3)) (.bool true)) :=
  hB ▸ ints_any v _ [1, 3] [1, 3] _ (hv.below ((Below.refl _ W).alloc (Nat.le_refl _) _)) (NR.lit W [1, 3] (0, 0)) (by decide) (by decide)
set_option maxHeartbeats 800000 in
set_option maxRecDepth 100000 in
theorem fknown_any (w : World) : Calls Try.prog 10 #[] w fun e w' => e = .returned (.bool true) ∧ Below w.heap.size w w' := by
  have FI := Lib.hid kn_find
  have AL := Lib.hid kn_all
  have L1 := Lib.hid kn_lower1
  have L2 := Lib.hid kn_lower2
  have O3 := Lib.hid kn_of3
  have O2 := Lib.hid kn_of2
  have CL := Lib.hid (fun w => close_any (ofL [97, 49]) w)
  have IN := Lib.hid kn_ints
  have SH := Lib.hid shown_any
  have eo := kn_close
  have hcv3 := fun W => conv_new W #[.int .u8 65, .int .u8 49, .int .u8 97] 3 3
  have hcv2 := fun W => conv_new W #[.int .u8 97, .int .u8 49] 2 2
  have hb : Below w.heap.size w w := Below.refl _ _
  go_enter Try.func10, Try.ntmps10
  go_wp2_with (first
    | (go_at_call 35; (with_reducible refine (AL.out _).mono ?_); rintro e w3 ⟨v, rfl, hv, hb2⟩; replace hb := hb.trans (hb2.mono hb.size); clear hb2)
    | (go_at_call 33; (with_reducible refine (FI.out _).mono ?_); rintro e w2 ⟨rfl, hb2⟩; replace hb := hb.trans (hb2.mono hb.size); (try replace hv := hv.below hb2); clear hb2)
    | (go_at_call 13; (with_reducible refine (L1.out _).mono ?_); rintro e w4 ⟨rfl, hb2⟩; replace hb := hb.trans (hb2.mono hb.size); (try replace hv := hv.below hb2); clear hb2)
    | (go_at_call 13; (with_reducible refine (L2.out _).mono ?_); rintro e w5 ⟨rfl, hb2⟩; replace hb := hb.trans (hb2.mono hb.size); (try replace hv := hv.below hb2); clear hb2)
    | (go_at_call 43; (with_reducible refine (O2.out _ _ rfl).mono ?_); rintro e w11 ⟨rfl, hb2⟩; replace hb := (hb.alloc hb.size _).trans (hb2.mono (hb.alloc hb.size _).size); replace hv := (hv.below ((Below.refl _ _).alloc (Nat.le_refl _) _)).below hb2; clear hb2)
    | (go_at_call 20; (with_reducible refine (CL.out _).mono ?_); rintro e w12 ⟨rfl, hb2⟩; replace hb := hb.trans (hb2.mono hb.size); (try replace hv := hv.below hb2); clear hb2)
    | (go_at_call 43; (with_reducible refine (O3.out _ _ rfl).mono ?_); rintro e w13 ⟨rfl, hb2⟩; replace hb := (hb.alloc hb.size _).trans (hb2.mono (hb.alloc hb.size _).size); replace hv := (hv.below ((Below.refl _ _).alloc (Nat.le_refl _) _)).below hb2; clear hb2)
    | (go_at_call 37; (with_reducible refine (IN.out _ _ _ rfl hv).mono ?_); rintro e w14 ⟨rfl, hb2⟩; replace hb := (hb.alloc hb.size _).trans (hb2.mono (hb.alloc hb.size _).size); clear hb2)
    | (go_at_call 17; (with_reducible refine (SH.out _).mono ?_); rintro e w6 ⟨rfl, hb2⟩; replace hb := hb.trans (hb2.mono hb.size); clear hb2)
    )
  go_ret
  exact ⟨rfl, hb⟩
end Go.Proofs.Ytnpfdnpklopnkaa
