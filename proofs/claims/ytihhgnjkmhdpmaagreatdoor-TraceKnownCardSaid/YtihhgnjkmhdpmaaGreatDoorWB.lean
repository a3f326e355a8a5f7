/- Layer 1: contracts of integer, Int and Digits; what the listed variables hold. -/
import Derived.Test.YtihhgnjkmhdpmaaGreatDoorWA
import Derived.Test.YtihhgnjkmhdpmaaGreatDoorShelf
import Derived.Lib.LaidTab
import Derived.WalkSmall
namespace Go.Proofs.YtihhgnjkmhdpmaaGreatDoor.W
open Go.RowKit
/-- What the call finds in package-level variables. -/
structure LW (w : World) : Prop where
  p10 : Lib.TabIs Tryz.prog w "internal/strconv.uint64pow10" IntKind.u64 Lib.pow10Tab
  er : ∃ tp p, World.var? Tryz.prog w "strconv.ErrRange" = some #[Value.iface tp p]
  ml : ∃ m, w.cell? ⟨0, 0, none⟩ = some (.int .i64 m)
  gs : 1 < w.heap.size ∧ 3 < w.heap.size ∧ 0 < w.heap.size
theorem gP10 : Tryz.prog.globalNamed "internal/strconv.uint64pow10" = some 1 := by kernel_rfl
theorem gER : Tryz.prog.globalNamed "strconv.ErrRange" = some 3 := by kernel_rfl
theorem LW.below {w w' : World} (h : LW w) (hb : Below w.heap.size w w') : LW w' := by
  obtain ⟨a, ⟨tp, p, b⟩, ⟨m, d⟩, e1, e2, e4⟩ := h
  have hs := hb.size
  refine ⟨var?_below hb gP10 e1 a, ⟨tp, p, var?_below hb gER e2 b⟩, ⟨m, (hb.cell (p := ⟨0, 0, none⟩) e4).trans d⟩, ?_⟩
  exact ⟨by omega, by omega, by omega⟩

theorem cutM_any (s : ByteArray) (w : World) : Calls Tryz.prog 76 #[.string s, .string ⟨#[45]⟩] w fun e w' =>
    e = .returned (.tuple #[.string ⟨(dropM s.data.toList).toArray⟩, .bool (minusB s.data.toList)]) ∧ w = w' :=
  (Tryz.strings_CutPrefix s ⟨#[45]⟩ w).mono (by rintro e w' ⟨rfl, rfl⟩; exact ⟨rfl, rfl⟩)

theorem natural_list (l : List UInt8) (w : World) (hs : l.length ≤ maxLen) :
    Calls Tryz.prog 77 #[.string ⟨l.toArray⟩] w fun e w' => e = .returned (.bool (natL l)) ∧ w = w' :=
  natural_any ⟨l.toArray⟩ w (by rw [size_mk]; exact hs)

theorem integer_any (s : ByteArray) (w : World) (hs : s.size ≤ maxLen) :
    Calls Tryz.prog 64 #[.string s] w fun e w' => e = .returned (.bool (intForm s.data.toList)) ∧ w = w' := by
  have hl : (dropM s.data.toList).length ≤ maxLen := by
    have := dropM_le s.data.toList; rw [length_data] at this; omega
  by_cases h1 : natL (dropM s.data.toList) = true
  · by_cases h2 : minusB s.data.toList = true
    · go_enter Tryz.func64, Tryz.ntmps64
      go_wp2_with (first | (go_at_call 76; refine (cutM_any _ _).mono ?_; rintro e w' ⟨rfl, rfl⟩) | (go_at_call 77; refine (natural_list _ _ hl).mono ?_; rintro e w' ⟨rfl, rfl⟩))
      go_ret
      exact ⟨ret_bool (by unfold intForm; rw [h1, h2, Bool.eq_iff_iff]; simp), rfl⟩
    · have h2 : minusB s.data.toList = false := by simpa using h2
      go_enter Tryz.func64, Tryz.ntmps64
      go_wp2_with (first | (go_at_call 76; refine (cutM_any _ _).mono ?_; rintro e w' ⟨rfl, rfl⟩) | (go_at_call 77; refine (natural_list _ _ hl).mono ?_; rintro e w' ⟨rfl, rfl⟩))
      go_ret
      exact ⟨ret_bool (by unfold intForm; rw [h1, h2]; simp), rfl⟩
  · have h1 : natL (dropM s.data.toList) = false := by simpa using h1
    go_enter Tryz.func64, Tryz.ntmps64
    go_wp2_with (first | (go_at_call 76; refine (cutM_any _ _).mono ?_; rintro e w' ⟨rfl, rfl⟩) | (go_at_call 77; refine (natural_list _ _ hl).mono ?_; rintro e w' ⟨rfl, rfl⟩))
    go_ret
    exact ⟨ret_bool (by unfold intForm; rw [h1]; simp), rfl⟩

theorem below_grow (w : World) (k : Nat) (os : Array Obj) : Below w.heap.size w (Sort.grow (w.drewN k) os) :=
  ⟨rfl, rfl, rfl, by simp [Sort.grow, World.drewN], fun i hi => by simp [Sort.grow, World.drewN, Array.getElem?_append_left hi]⟩

theorem digits_any (n : Int) (h0 : -9223372036854775808 ≤ n) (h1 : n ≤ 9223372036854775807) (w : World) (hw : LW w) :
    Calls Tryz.prog 42 #[.int .i64 n] w fun e w' => e = .returned (.string ⟨(Lib.itoa n).toArray⟩) ∧ Below w.heap.size w w' := by
  have hp := Lib.hid (Tryz.strconv_FormatInt_10 n h0 h1 w hw.p10)
  clear hw h0 h1
  go_enter Tryz.func42, Tryz.ntmps42
  go_wp2_with (go_at_call 57; refine hp.out.mono ?_; rintro e w' ⟨rfl, k, os, rfl⟩)
  go_ret
  exact ⟨rfl, below_grow _ _ _⟩

theorem ret_tup2 {a b c d : Int} (h : a = b) (h' : c = d) : Ending.returned (.tuple #[.int .i64 a, .int .i64 c]) = .returned (.tuple #[.int .i64 b, .int .i64 d]) := by rw [h, h']
theorem int_any (s : ByteArray) (lo hi : Int) (l0 : -9223372036854775808 ≤ lo) (h0 : hi ≤ 9223372036854775807) (w : World) (hw : LW w) (hs : s.size ≤ 281474976710656) :
    Calls Tryz.prog 49 #[.string s, .int .i64 lo, .int .i64 hi] w fun e w' =>
      e = .returned (.tuple #[.int .i64 (intV s.data.toList lo hi), .int .i64 (intE s.data.toList lo hi)]) ∧ Below w.heap.size w w' := by
  have hs1 : s.size ≤ maxLen := by unfold maxLen; omega
  by_cases h1 : intForm s.data.toList = true
  · have hp := parse_form s.data.toList h1
    obtain ⟨tp, p, her⟩ := hw.er
    by_cases hr : -9223372036854775808 ≤ intVal s.data.toList ∧ intVal s.data.toList ≤ 9223372036854775807
    · rw [if_pos hr] at hp
      have HP := Lib.hid (Tryz.strconv_ParseInt_10_at64_ok s (by omega) _ hp w)
      have HF := Lib.hid h1
      obtain ⟨v, hv⟩ : ∃ v, v = intVal s.data.toList := ⟨_, rfl⟩
      rw [← hv] at HP
      have hO : outR s.data.toList lo hi = (decide (v < lo) || decide (hi < v)) := by rw [hv]; rfl
      have HO := Lib.hid hO
      have HV := Lib.hid hv
      clear hp her hv hr h0 l0 hs hw hO
      go_enter Tryz.func49, Tryz.ntmps49
      go_wp2_with (first | (go_at_call 64; refine (integer_any _ _ hs1).mono ?_; rintro e w' ⟨rfl, rfl⟩) | (go_at_call 65; refine HP.out.mono ?_; rintro e w' ⟨rfl, hb⟩))
      all_goals
        have hbb : Below w.heap.size w w' := by
          rcases hb with rfl | ⟨t, rfl⟩
          · exact Below.refl _ _
          · exact Lib.bytesWorld_below _ _ _
        go_ret2
        refine ⟨ret_tup2 ?_ ?_, hbb⟩
        · unfold intV; rw [HF.out, HO.out]
          first | rw [if_neg (by simp; omega)] | rw [if_pos (by simp; omega), ← HV.out]
        · unfold intE; rw [HF.out, HO.out, if_pos rfl]
          first | rw [if_neg (by simp; omega)] | rw [if_pos (by simp; omega)]
    · rw [if_neg hr] at hp
      have HP := Lib.hid (Tryz.strconv_ParseInt_10_at64_range_var s hs hp tp p w her)
      have HF := Lib.hid h1
      have hr' : outR s.data.toList lo hi = true := by unfold outR; simp; omega
      have HR := Lib.hid hr'
      clear hp her hr hr' h0 l0 hs hw
      go_enter Tryz.func49, Tryz.ntmps49
      go_wp2_with (first | (go_at_call 64; refine (integer_any _ _ hs1).mono ?_; rintro e w' ⟨rfl, rfl⟩) | (go_at_call 65; refine HP.out.mono ?_; rintro e w' ⟨N, rfl, _, _, hb⟩))
      go_ret2
      exact ⟨ret_tup2 (by unfold intV; rw [HF.out, HR.out]; rfl) (by unfold intE; rw [HF.out, HR.out]; rfl), hb⟩
  · have h1 : intForm s.data.toList = false := by simpa using h1
    go_enter Tryz.func49, Tryz.ntmps49
    go_wp2_with (go_at_call 64; refine (integer_any _ _ hs1).mono ?_; rintro e w' ⟨rfl, rfl⟩)
    go_ret2
    exact ⟨ret_tup2 (by unfold intV; rw [h1]; rfl) (by unfold intE; rw [h1]; rfl), Below.refl _ _⟩
end Go.Proofs.YtihhgnjkmhdpmaaGreatDoor.W
