/- Layer 3: Of, Range, Has, Add, Drop as the reference. -/
import Derived.Test.YtedbhjladpfafaaX
namespace Go.Proofs.Ytedbhjladpfafaa
open Go.RowKit
attribute [local go_sem] eq4 guard4 eqS_self
theorem u8_of (x : Int) : ∃ c : Nat, c < 256 ∧ IntKind.u8.wrap x = (c : Int) := by
  refine ⟨(x % 256).toNat, by omega, ?_⟩
  rw [IntKind.wrap_u8]; omega
theorem Calls.quiet_bool {P : Program} {w : World} {f : FuncId} {args : Array Value} {n : Nat} {w' : World} {b : Bool} (h : Calls P f args w' fun e w'' => e = .returned (.bool b) ∧ Below w'.heap.size w' w'') (hw : Below n w w') (hn : n ≤ w.heap.size) :
    Calls P f args w' fun e w'' => e = .returned (.bool b) ∧ Below n w w'' := Calls.quiet_below h hw hn (fun _ _ h => h)
set_option maxHeartbeats 800000 in
set_option maxRecDepth 100000 in
theorem makes_any (v : Value) (xs : List Nat) (x y : Int) (w : World) (hv : BR w v xs) : Calls Try.prog 3 #[v, .int .i64 x, .int .i64 y] w fun e w' => e = .returned (.bool true) ∧ Below w.heap.size w w' := by
  have HV := hv
  obtain ⟨p, cc, rfl, _, _⟩ := hv
  by_cases hl : 1000 < xs.length
  · have hlb : decide ((1000 : Int) < (xs.length : Int)) = true := decide_eq_true (by omega)
    have SH := Lib.hid (shown_any w)
    clear HV
    go_enter Try.func3, Try.ntmps3
    go_wp2_with (go_at_call 9; refine SH.out.mono ?_; rintro e w2 ⟨rfl, hb2⟩)
    go_ret
    exact ⟨rfl, hb2⟩
  · have hlb : decide ((1000 : Int) < (xs.length : Int)) = false := decide_eq_false (by omega)
    obtain ⟨c, hc, hcw⟩ := u8_of x
    have OF := Lib.hid (of_any _ xs w HV (by omega))
    have RG := Lib.hid (fun w => range_any x y w)
    have RR := Lib.hid (fun w => rrange_any x y w)
    have HL := Lib.hid (show xs.length ≤ 1000000000 by omega)
    have HV' := Lib.hid HV
    clear HV
    go_enter Try.func3, Try.ntmps3
    go_wp2_with (first
      | (go_at_call 10; refine OF.out.mono ?_; rintro e w2 ⟨rfl, hb2⟩; have z2 := SA.zero w2; have l2 := hb2.size)
      | (refine wpList_put rfl _ _ rfl _ rfl _ (ofL xs) rfl z2 ?_; (intro w3 x3 p3; have B3 := (hb2.alloc l2 zeros).trans (p3.below l2); have l3 := B3.size; clear z2 hb2 p3))
      | (go_at_call 11; refine (RG.out _).mono ?_; rintro e w4 ⟨rfl, hb4⟩; have x4' := x3.below hb4 x3.lt; have j4 := x4'.lt; have x4 := x4'.alloc zeros; have B4 := B3.trans (hb4.mono B3.size); have z4 := SA.zero w4; have l4 := B4.size; clear hb4 B3)
      | (refine wpList_put rfl _ _ rfl _ rfl _ (rngP x y) rfl z4 ?_; (intro w5 y5 p5; have x5 := p5.sa (by omega) x4; have B5 := (B4.alloc l4 zeros).trans (p5.below l4); have l5 := B5.size; clear z4 p5 B4))
      | (go_at_call 12; refine (RR.out _).mono ?_; rintro e w6 ⟨rfl, hb6⟩; have x6' := x5.below hb6 x5.lt; have j6 := x6'.lt; have y6' := y5.below hb6 y5.lt; have k6 := y6'.lt; have x6 := x6'.alloc zeros; have y6 := y6'.alloc zeros; have B6 := B5.trans (hb6.mono B5.size); have z6 := SA.zero w6; have l6 := B6.size; clear hb6 B5)
      | (refine wpList_put rfl _ _ rfl _ rfl _ (rngP x y) rfl z6 ?_; (intro w7 z7 p7; have x7 := p7.sa (by omega) x6; have y7 := p7.sa (by omega) y6; have B7 := (B6.alloc l6 zeros).trans (p7.below l6); clear z6 p7 B6))
      )
    have HV7 := HV'.out.below B7
    refine wp_region_below (w := w7) (Nat.le_refl _) (by kernel_rfl) (by kernel_rfl) ?_
    repeat (first
      | go_big_quiet_skip
      | (go_big_quiet_want; (first
          | ((first | refine quiet_get _ rfl _ rfl _ x7 x7.lt ?_ | refine quiet_get _ rfl _ rfl _ y7 y7.lt ?_ | refine quiet_get _ rfl _ rfl _ z7 z7.lt ?_); simp only [Act.put, List.setIfInBounds_toArray, List.set_cons_succ, List.set_cons_zero]; go_big_quiet_on)
          | (go_big_quiet_op; (first
              | go_big_quiet_on
              | (refine ⟨_, fun _ _ => rfl, ?_⟩; go_big_quiet_on)
              | (apply Exists.intro; refine ⟨fun w9 hw9 => ?_, ?_⟩; (focus (first | (go_at_call 13; exact Calls.quiet_below (rof_any _ xs _ (HV7.below hw9) HL.out) hw9 (Nat.le_refl _) (fun _ _ h => h)) | (go_at_call 14; exact Calls.quiet_bool (has_any _ c _ hc) hw9 (Nat.le_refl _)) | (go_at_call 15; exact Calls.quiet_bool (rhas_any _ c _ hc) hw9 (Nat.le_refl _)) | (go_at_call 16; exact Calls.quiet_below (add_any _ c _ hc) hw9 (Nat.le_refl _) (fun _ _ h => h)) | (go_at_call 17; exact Calls.quiet_below (radd_any _ c _ hc) hw9 (Nat.le_refl _) (fun _ _ h => h)) | (go_at_call 18; exact Calls.quiet_below (drop_any _ c _ hc) hw9 (Nat.le_refl _) (fun _ _ h => h)) | (go_at_call 19; exact Calls.quiet_below (rdrop_any _ c _ hc) hw9 (Nat.le_refl _) (fun _ _ h => h)) | (go_at_call 9; exact Calls.quiet_bool (shown_any _) hw9 (Nat.le_refl _)))); go_big_quiet_on))))))
    refine wpQuiet_nil ?_
    intro w8 hb8
    have B8 := B7.trans (hb8.mono B7.size)
    go_wp2
    go_ret
    exact ⟨rfl, B8⟩
end Go.Proofs.Ytedbhjladpfafaa
