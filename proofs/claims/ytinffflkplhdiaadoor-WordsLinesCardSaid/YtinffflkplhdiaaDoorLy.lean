/- Layer 1: the law on Lines, walked. -/
import Derived.Test.YtinffflkplhdiaaDoorLx
namespace Go.Proofs.YtinffflkplhdiaaDoor
open Go.RowKit
theorem mk_u8 (n : Nat) (z : Int) (hz : z = (n : Int)) (hn : n ≤ 2000000) (W : World) : (Instr.makeSlice 38 (.int .i64 z) (.int .i64 z)).run Tryd.prog W = .ok (.slice (some ⟨W.heap.size, 0, none⟩) n n) (W.alloc (.cells (madeCells #[.int .u8 0] n) 5)) := by
  subst hz
  obtain ⟨i0, hi, hz0, hz1, hz2⟩ := info_parts info_u8
  exact run_make_row _ _ i0 _ Tryd.underlying38 hi hz0 hz1 rfl .i64 .i64 n (by rw [hz2]; omega) (by omega) W
def u8R (g : Nat → UInt8) (j : Nat) : Value := .int .u8 ((g j).toNat : Int)
def strG (n : Nat) (g : Nat → UInt8) : ByteArray := ⟨((List.range n).map g).toArray⟩
theorem strG_size (n : Nat) (g : Nat → UInt8) : (strG n g).size = n := by unfold strG; rw [size_mk]; simp
theorem row_cv {w : World} {B n : Nat} {g : Nat → UInt8} (h : w.rowIs B 5 n (u8R g)) : (convert 38 9 (.slice (some ⟨B, 0, none⟩) n n)).run Tryd.prog w = .ok (.string (strG n g)) w := by
  have ad : ∀ j, (⟨B, 0, none⟩ : Addr).add j = ⟨B, j, none⟩ := fun j => by cases j <;> simp [Addr.add]
  have := run_convert_bytes_back (P := Tryd.prog) w 38 9 5 ⟨B, 0, none⟩ n ((List.range n).map g) Tryd.underlying38 Tryd.underlying5 Tryd.underlying9 (fun j hj => by
    rw [List.length_map, List.length_range] at hj
    rw [ad, h.cell hj]
    simp [u8R])
  rw [List.length_map, List.length_range] at this
  exact this
theorem u8R_set {w : World} {B n k : Nat} {g : Nat → UInt8} (c : UInt8) (h : w.rowIs B 5 n (u8R g)) : (w.setCell ⟨B, k, none⟩ (.int .u8 (c.toNat : Int))).rowIs B 5 n (u8R fun j => if j = k then c else g j) :=
  (h.set k _).congr fun j _ => by
    by_cases e : j = k
    · simp [u8R, e]
    · simp [u8R, e]
set_option maxHeartbeats 1600000 in
set_option maxRecDepth 100000 in
theorem wlines_any (s t : ByteArray) (lg : Bool) (w : World) (hw : LW w) : Calls Tryd.prog 7 #[.string s, .string t, .bool lg] w fun e w' => e = .returned (.bool true) ∧ Below w.heap.size w w' := by
  have SH := Lib.hid (fun w' (h : Below w.heap.size w w') => shown_any w' (hw.below h))
  have hb := Below.refl w.heap.size w
  by_cases h1 : 12000 < s.size
  · have hb1 : decide ((12000 : Int) < (s.size : Int)) = true := decide_eq_true (by omega)
    clear h1 hw
    go_enter Tryd.func7, Tryd.ntmps7
    go_wp2_with (first
      | (go_at_call 11; refine (SH.out _ hb).mono ?_; rintro e w4 ⟨rfl, hb2⟩; replace hb := hb.trans (hb2.mono hb.size); clear hb2)
      )
    go_ret
    exact ⟨rfl, hb⟩
  have hb1 : decide ((12000 : Int) < (s.size : Int)) = false := decide_eq_false (by omega)
  by_cases h2 : 100 < t.size
  · have hb2 : decide ((100 : Int) < (t.size : Int)) = true := decide_eq_true (by omega)
    clear h1 h2 hw
    go_enter Tryd.func7, Tryd.ntmps7
    go_wp2_with (first
      | (go_at_call 11; refine (SH.out _ hb).mono ?_; rintro e w4 ⟨rfl, hb2⟩; replace hb := hb.trans (hb2.mono hb.size); clear hb2)
      )
    go_ret
    exact ⟨rfl, hb⟩
  have hb2 : decide ((100 : Int) < (t.size : Int)) = false := decide_eq_false (by omega)
  have LN := Lib.hid (fun w' (h : Below w.heap.size w w') (x : ByteArray) (hx : x.size ≤ 4000000000) => lineslaw_any x w' (hw.below h) hx)
  clear hw
  obtain ⟨n5, h5⟩ : ∃ n : Nat, (5000 : Int) = (n : Int) := ⟨5000, rfl⟩
  obtain ⟨n6, h6⟩ : ∃ n : Nat, (1048556 : Int) = (n : Int) := ⟨1048556, rfl⟩
  have M5 := mk_u8 n5 5000 h5 (by omega)
  have M6 := mk_u8 n6 1048556 h6 (by omega)
  have m5 : n5 ≤ 2000000 := by omega
  have m6 : n6 ≤ 2000000 := by omega
  clear h5 h6
  cases lg
  · go_enter Tryd.func7, Tryd.ntmps7
    go_wp2
    clear M5 M6 hb
    have hB0 := Lib.hid (show Below w.heap.size w (w.alloc (.cells (madeCells #[.int .u8 0] n5) 5)) from (Below.refl _ w).alloc (Nat.le_refl _) _)
    have hR0 := Lib.hid (show (w.alloc (.cells (madeCells #[.int .u8 0] n5) 5)).rowIs w.heap.size 5 n5 (u8R fun _ => 0) from World.rowIs_made _ _ _ _)
    have hBw := Lib.hid (Nat.le_refl w.heap.size)
    go_loopw [8] (fun i wr => ∃ (k : Nat) (g : Nat → UInt8), k ≤ n5 ∧ i = .int .i64 k ∧ wr.rowIs w.heap.size 5 n5 (u8R g) ∧ Below w.heap.size w wr) (fun i _ => n5 - (intOf i).toNat)
    case atStart => exact ⟨0, fun _ => 0, Nat.zero_le _, rfl, hR0.out, hB0.out⟩
    case round =>
      clear hR0 hB0
      obtain ⟨k, g, hk, rfl, hrow, hb⟩ := hrel
      by_cases hlt : k < n5
      · have hltb : decide ((k : Int) < (n5 : Int)) = true := decide_eq_true (by omega)
        have q0 : (0 : Int) ≤ (k : Int) := by omega
        have q1 : (k : Int) < (n5 : Int) := by omega
        have hc0 := hrow.cell hlt
        have hf0 := hrow.frozen k
        have HR := Lib.hid hrow
        have hs1 := hb.size
        clear hrow
        go_wp2
        all_goals go_roundw
        all_goals first
          | (simp [intOf]; omega)
          | exact ⟨k + 1, _, by omega, by go_num, u8R_set 10 HR.out, hb.setCell hBw.out _⟩
          | exact ⟨k + 1, _, by omega, by go_num, u8R_set 120 (u8R_set 10 HR.out), (hb.setCell hBw.out _).setCell hBw.out _⟩
      · obtain rfl : k = n5 := by omega
        have hltb : decide ((k : Int) < (k : Int)) = false := decide_eq_false (by omega)
        have hsz : (strG k g ++ t).size ≤ 4000000000 := by rw [ByteArray.size_append, strG_size]; omega
        have hgz := strG_size k g
        have LX := Lib.hid (fun w' h => LN.out w' h _ hsz)
        have LS := Lib.hid (fun w' h => LN.out w' h s (by omega))
        have hcc : ¬ 9223372036854775807 < (strG k g).size + t.size := by omega
        have hcd : ¬ 9223372036854775807 < k + t.size := by omega
        have HR := Lib.hid hrow
        have HCV := Lib.hid (fun (W : World) (h : Below wr.heap.size wr W) => row_cv (HR.out.of_block (h.block _ HR.out.lt)))
        generalize strG k g = x at *
        clear hrow hsz LN
        go_wp2_with (first
          | (go_at_call 28; first
            | ((with_reducible refine (LS.out _ hb).mono ?_); rintro e w2 ⟨rfl, hb2⟩; have hcv := HCV.out _ hb2; replace hb := hb.trans (hb2.mono hb.size); clear hb2)
            | ((with_reducible refine (LX.out _ hb).mono ?_); rintro e w2 ⟨rfl, hb2⟩; replace hb := hb.trans (hb2.mono hb.size); clear hb2))
          | (go_at_call 11; refine (SH.out _ hb).mono ?_; rintro e w4 ⟨rfl, hb2⟩; replace hb := hb.trans (hb2.mono hb.size); clear hb2)
          )
        go_ret
        exact ⟨rfl, hb⟩
  · go_enter Tryd.func7, Tryd.ntmps7
    go_wp2
    clear M5 M6 hb
    have hB0 := Lib.hid (show Below w.heap.size w ((w.alloc (.cells (madeCells #[.int .u8 0] n5) 5)).alloc (.cells (madeCells #[.int .u8 0] n6) 5)) from ((Below.refl _ w).alloc (Nat.le_refl _) _).alloc (by simp) _)
    have hR0 := Lib.hid (show ((w.alloc (.cells (madeCells #[.int .u8 0] n5) 5)).alloc (.cells (madeCells #[.int .u8 0] n6) 5)).rowIs (w.heap.size + 1) 5 n6 (u8R fun _ => 0) from by
      have := World.rowIs_made (w.alloc (.cells (madeCells #[.int .u8 0] n5) 5)) (.int .u8 0) n6 5
      rw [World.size_alloc] at this
      exact this)
    have hBw := Lib.hid (Nat.le_succ w.heap.size)
    go_loopw [8] (fun i wr => ∃ (k : Nat) (g : Nat → UInt8), k ≤ n6 ∧ i = .int .i64 k ∧ wr.rowIs (w.heap.size + 1) 5 n6 (u8R g) ∧ Below w.heap.size w wr) (fun i _ => n6 - (intOf i).toNat)
    case atStart => exact ⟨0, fun _ => 0, Nat.zero_le _, rfl, hR0.out, hB0.out⟩
    case round =>
      clear hR0 hB0
      obtain ⟨k, g, hk, rfl, hrow, hb⟩ := hrel
      by_cases hlt : k < n6
      · have hltb : decide ((k : Int) < (n6 : Int)) = true := decide_eq_true (by omega)
        have q0 : (0 : Int) ≤ (k : Int) := by omega
        have q1 : (k : Int) < (n6 : Int) := by omega
        have hc0 := hrow.cell hlt
        have hf0 := hrow.frozen k
        have HR := Lib.hid hrow
        have hs1 := hb.size
        clear hrow
        go_wp2
        all_goals go_roundw
        all_goals first
          | (simp [intOf]; omega)
          | exact ⟨k + 1, _, by omega, by go_num, u8R_set 10 HR.out, hb.setCell hBw.out _⟩
          | exact ⟨k + 1, _, by omega, by go_num, u8R_set 120 (u8R_set 10 HR.out), (hb.setCell hBw.out _).setCell hBw.out _⟩
      · obtain rfl : k = n6 := by omega
        have hltb : decide ((k : Int) < (k : Int)) = false := decide_eq_false (by omega)
        have hsz : (strG k g ++ t).size ≤ 4000000000 := by rw [ByteArray.size_append, strG_size]; omega
        have hgz := strG_size k g
        have LX := Lib.hid (fun w' h => LN.out w' h _ hsz)
        have LS := Lib.hid (fun w' h => LN.out w' h s (by omega))
        have hcc : ¬ 9223372036854775807 < (strG k g).size + t.size := by omega
        have hcd : ¬ 9223372036854775807 < k + t.size := by omega
        have HR := Lib.hid hrow
        have HCV := Lib.hid (fun (W : World) (h : Below wr.heap.size wr W) => row_cv (HR.out.of_block (h.block _ HR.out.lt)))
        generalize strG k g = x at *
        clear hrow hsz LN
        go_wp2_with (first
          | (go_at_call 28; first
            | ((with_reducible refine (LS.out _ hb).mono ?_); rintro e w2 ⟨rfl, hb2⟩; have hcv := HCV.out _ hb2; replace hb := hb.trans (hb2.mono hb.size); clear hb2)
            | ((with_reducible refine (LX.out _ hb).mono ?_); rintro e w2 ⟨rfl, hb2⟩; replace hb := hb.trans (hb2.mono hb.size); clear hb2))
          | (go_at_call 11; refine (SH.out _ hb).mono ?_; rintro e w4 ⟨rfl, hb2⟩; replace hb := hb.trans (hb2.mono hb.size); clear hb2)
          )
        go_ret
        exact ⟨rfl, hb⟩
end Go.Proofs.YtinffflkplhdiaaDoor
