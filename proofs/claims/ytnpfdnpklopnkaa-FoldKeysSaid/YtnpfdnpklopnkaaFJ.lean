/- Layer 4: the law's closed calls. -/
import Derived.Test.YtnpfdnpklopnkaaFI
namespace Go.Proofs.Ytnpfdnpklopnkaa
open Go.RowKit
attribute [local go_sem] eq4 guard4
theorem NR.lit (W : World) (xs : List Nat) (fr : Nat × Nat) : NR (W.alloc (.cells (xs.map i64n).toArray 3 fr)) (.slice (some ⟨W.heap.size, 0, none⟩) xs.length xs.length) xs :=
  ⟨_, _, rfl, Nat.le_refl _, fun i x hi => ⟨_, _, rfl, by
    rw [cell_of_row _ _ _ _ _ _ (heap_alloc_new _ _)]
    simp [hi, i64n]⟩⟩
theorem NumP.to {w : World} {v u : Value} {f : FuncId} {args : Array Value} (h : Calls Try.prog f args w (NumP w v)) (e : v = u) : Calls Try.prog f args w (NumP w u) := e ▸ h
theorem sh_same1 (w : World) : Calls Try.prog 11 #[.int .u8 97, .int .u8 65] w (NumP w (.bool true)) := NumP.to (same_any 97 65 w (by decide) (by decide)) (by rw [show sameN 97 65 = true by decide])
theorem sh_same2 (w : World) : Calls Try.prog 11 #[.int .u8 91, .int .u8 123] w (NumP w (.bool false)) := NumP.to (same_any 91 123 w (by decide) (by decide)) (by rw [show sameN 91 123 = false by decide])
theorem sh_same3 (w : World) : Calls Try.prog 11 #[.int .u8 48, .int .u8 80] w (NumP w (.bool false)) := NumP.to (same_any 48 80 w (by decide) (by decide)) (by rw [show sameN 48 80 = false by decide])
theorem sh_lower (w : World) : Calls Try.prog 13 #[.int .u8 64] w (NumP w (.int .u8 64)) := lower_any 64 w (by decide)
abbrev kA : ByteArray := ⟨#[65, 98, 45, 49, 90]⟩
abbrev kB : ByteArray := ⟨#[97, 98, 45, 49, 122]⟩
theorem sh_key (w : World) : Calls Try.prog 28 #[.string kA] w (NumP w (.string kB)) := NumP.to (key_any kA w (by decide)) (by
  have : keyS kA = kB := by unfold keyS; rw [show keyL kA.data.toList = [97, 98, 45, 49, 122] by decide]
  rw [this])
abbrev sAb : ByteArray := ⟨#[65, 98]⟩
abbrev saB : ByteArray := ⟨#[97, 66]⟩
abbrev sAC : ByteArray := ⟨#[65, 67]⟩
abbrev sxA : ByteArray := ⟨#[120, 65, 98, 65, 66]⟩
abbrev sab : ByteArray := ⟨#[97, 98]⟩
abbrev se : ByteArray := ⟨#[]⟩
theorem sh_alike (w : World) : Calls Try.prog 26 #[.string sAb, .string saB] w (NumP w (.bool true)) := NumP.to (alike_any sAb saB w (by decide) (by decide)) (by rw [show alikeL sAb.data.toList saB.data.toList = true by decide])
theorem sh_comp (w : World) : Calls Try.prog 30 #[.string saB, .string sAC] w (NumP w (.int .i64 (-1))) := NumP.to (compare_any saB sAC w (by decide) (by decide)) (by rw [show cmpK saB.data.toList sAC.data.toList = -1 by decide])
theorem sh_find (w : World) : Calls Try.prog 33 #[.string sxA, .string saB] w (NumP w (.tuple #[.int .i64 1, .int .i64 0])) :=
  (find_any sxA saB w (by decide) (by decide)).mono fun _ _ h => ⟨by rw [h.1, show findV sxA saB = (1, 0) by decide +kernel]; rfl, h.2⟩
theorem sh_all (w : World) : Calls Try.prog 35 #[.string sab, .string se] w fun e w' => ∃ v, e = .returned (.tuple #[v, .int .i64 0]) ∧ NR w' v [0, 1, 2] ∧ Below w.heap.size w w' :=
  (all_any sab se w (by decide) (by decide)).mono fun _ _ h => by
    obtain ⟨v, h1, h2, h3⟩ := h
    rw [show allL sab se = [0, 1, 2] by decide +kernel] at h2
    rw [show allE sab se = 0 by decide +kernel] at h1
    exact ⟨v, h1, h2, h3⟩
theorem sh_of3 (B : Nat) (W : World) (hB : B = W.heap.size) : Calls Try.prog 43 #[.slice (some ⟨B, 0, none⟩) 3 3] (W.alloc (.cells #[.int .u8 97, .int .u8 65, .int .u8 98] 5 (3, 4))) (SetPost (W.alloc (.cells #[.int .u8 97, .int .u8 65, .int .u8 98] 5 (3, 4))) (ofL [97, 65, 98])) :=
  hB ▸ rof_any _ [97, 65, 98] _ (BR.lit W [97, 65, 98] (3, 4) (by decide)) (by decide)
theorem sh_of2 (B : Nat) (W : World) (hB : B = W.heap.size) : Calls Try.prog 43 #[.slice (some ⟨B, 0, none⟩) 2 2] (W.alloc (.cells #[.int .u8 97, .int .u8 65] 5 (2, 3))) (SetPost (W.alloc (.cells #[.int .u8 97, .int .u8 65] 5 (2, 3))) (ofL [97, 65])) :=
  hB ▸ rof_any _ [97, 65] _ (BR.lit W [97, 65] (2, 3) (by decide)) (by decide)
theorem sh_open : eqS (openP (ofL [97, 65, 98])) (ofL [97, 65]) = true := by decide +kernel
theorem sh_ints (v : Value) (B : Nat) (W : World) (hB : B = W.heap.size) (hv : NR W v [0, 1, 2]) : Calls Try.prog 37 #[v, .slice (some ⟨B, 0, none⟩) 3 3] (W.alloc (.cells #[.int .i64 0, .int .i64 1, .int .i64 2] 3)) (NumP (W.alloc (.cells #[.int .i64 0, .int .i64 1, .int .i64 2] 3)) (.bool true)) :=
  hB ▸ ints_any v _ [0, 1, 2] [0, 1, 2] _ (hv.below ((Below.refl _ W).alloc (Nat.le_refl _) _)) (NR.lit W [0, 1, 2] (0, 0)) (by decide) (by decide)
set_option maxHeartbeats 800000 in
set_option maxRecDepth 100000 in
theorem shown_any (w : World) : Calls Try.prog 17 #[] w (NumP w (.bool true)) := by
  have FI := Lib.hid sh_find
  have AL := Lib.hid sh_all
  have S1 := Lib.hid sh_same1
  have S2 := Lib.hid sh_same2
  have S3 := Lib.hid sh_same3
  have LO := Lib.hid sh_lower
  have KE := Lib.hid sh_key
  have LI := Lib.hid sh_alike
  have CO := Lib.hid sh_comp
  have O3 := Lib.hid sh_of3
  have O2 := Lib.hid sh_of2
  have OP := Lib.hid (fun w => open_any (ofL [97, 65, 98]) w)
  have IN := Lib.hid sh_ints
  have eo := sh_open
  have hcv3 := fun W => conv_new W #[.int .u8 97, .int .u8 65, .int .u8 98] 3 3
  have hcv2 := fun W => conv_new W #[.int .u8 97, .int .u8 65] 2 2
  have hb : Below w.heap.size w w := Below.refl _ _
  go_enter Try.func17, Try.ntmps17
  go_wp2_with (first
    | (go_at_call 33; (with_reducible refine (FI.out _).mono ?_); rintro e w2 ⟨rfl, hb2⟩; replace hb := hb.trans (hb2.mono hb.size); clear hb2)
    | (go_at_call 35; (with_reducible refine (AL.out _).mono ?_); rintro e w3 ⟨v, rfl, hv, hb2⟩; replace hb := hb.trans (hb2.mono hb.size); clear hb2)
    | (go_at_call 11; (with_reducible refine (S1.out _).mono ?_); rintro e w4 ⟨rfl, hb2⟩; replace hb := hb.trans (hb2.mono hb.size); (try replace hv := hv.below hb2); clear hb2)
    | (go_at_call 11; (with_reducible refine (S2.out _).mono ?_); rintro e w5 ⟨rfl, hb2⟩; replace hb := hb.trans (hb2.mono hb.size); (try replace hv := hv.below hb2); clear hb2)
    | (go_at_call 11; (with_reducible refine (S3.out _).mono ?_); rintro e w6 ⟨rfl, hb2⟩; replace hb := hb.trans (hb2.mono hb.size); (try replace hv := hv.below hb2); clear hb2)
    | (go_at_call 13; (with_reducible refine (LO.out _).mono ?_); rintro e w7 ⟨rfl, hb2⟩; replace hb := hb.trans (hb2.mono hb.size); (try replace hv := hv.below hb2); clear hb2)
    | (go_at_call 28; (with_reducible refine (KE.out _).mono ?_); rintro e w8 ⟨rfl, hb2⟩; replace hb := hb.trans (hb2.mono hb.size); (try replace hv := hv.below hb2); clear hb2)
    | (go_at_call 26; (with_reducible refine (LI.out _).mono ?_); rintro e w9 ⟨rfl, hb2⟩; replace hb := hb.trans (hb2.mono hb.size); (try replace hv := hv.below hb2); clear hb2)
    | (go_at_call 30; (with_reducible refine (CO.out _).mono ?_); rintro e w10 ⟨rfl, hb2⟩; replace hb := hb.trans (hb2.mono hb.size); (try replace hv := hv.below hb2); clear hb2)
    | (go_at_call 43; (with_reducible refine (O3.out _ _ rfl).mono ?_); rintro e w11 ⟨rfl, hb2⟩; replace hb := (hb.alloc hb.size _).trans (hb2.mono (hb.alloc hb.size _).size); replace hv := (hv.below ((Below.refl _ _).alloc (Nat.le_refl _) _)).below hb2; clear hb2)
    | (go_at_call 22; (with_reducible refine (OP.out _).mono ?_); rintro e w12 ⟨rfl, hb2⟩; replace hb := hb.trans (hb2.mono hb.size); (try replace hv := hv.below hb2); clear hb2)
    | (go_at_call 43; (with_reducible refine (O2.out _ _ rfl).mono ?_); rintro e w13 ⟨rfl, hb2⟩; replace hb := (hb.alloc hb.size _).trans (hb2.mono (hb.alloc hb.size _).size); replace hv := (hv.below ((Below.refl _ _).alloc (Nat.le_refl _) _)).below hb2; clear hb2)
    | (go_at_call 37; (with_reducible refine (IN.out _ _ _ rfl hv).mono ?_); rintro e w14 ⟨rfl, hb2⟩; replace hb := (hb.alloc hb.size _).trans (hb2.mono (hb.alloc hb.size _).size); clear hb2)
    )
  go_ret
  exact ⟨rfl, hb⟩
end Go.Proofs.Ytnpfdnpklopnkaa
