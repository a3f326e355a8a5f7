/- Layer 1: Lines, walked. -/
import Derived.Test.YtihhgnjkmhdpmaaGreatDoorWLm
import Derived.Deep.OwnRows
namespace Go.Proofs.YtihhgnjkmhdpmaaGreatDoor.W
open Go.RowKit
def lnV (L : List ByteArray) (k j : Nat) : Value := .string (if j < k then L.getD j ⟨#[]⟩ else ⟨#[]⟩)
theorem SSl.of_row {w : World} {b : Nat} {L : List ByteArray} (h : w.rowIs b 9 L.length (lnV L L.length)) : SSl w (.slice (some ⟨b, 0, none⟩) L.length L.length) L := by
  refine ⟨_, _, rfl, fun i x hx => ⟨b, 0, rfl, ?_⟩⟩
  have hi : i < L.length := (List.getElem?_eq_some_iff.1 hx).1
  rw [Nat.zero_add, h.cell hi]
  unfold lnV
  rw [if_pos hi, List.getD_eq_getElem?_getD, hx]; rfl
set_option maxHeartbeats 1600000 in
set_option maxRecDepth 100000 in
theorem lines_any (s : ByteArray) (w : World) (hw : LW w) (hs : s.size ≤ 4000000000) : Calls Tryz.prog 27 #[.string s] w (LnPost w s) := by
  obtain ⟨i0, hi, hz0, hz1, hz2⟩ := info_parts info_str
  have hb := Below.refl w.heap.size w
  by_cases h1 : 1048576 < s.size
  · have E := Lib.hid (show linE s = 3 by unfold linE; rw [if_pos h1])
    have hb1 : decide ((1048576 : Int) < (s.size : Int)) = true := decide_eq_true (by omega)
    clear h1 hw
    go_enter Tryz.func27, Tryz.ntmps27
    go_wp2
    go_ret2
    exact ⟨_, by rw [E.out]; rfl, by unfold linR; rw [E.out]; exact SSl.nil _, hb⟩
  have hb1 : decide ((1048576 : Int) < (s.size : Int)) = false := decide_eq_false (by omega)
  have CT := Lib.hid (fun W => Tryz.strings_Count_one s 10 W)
  obtain ⟨m, hm⟩ : ∃ m, s.data.toList.count 10 = m := ⟨_, rfl⟩
  unfold Lib.countByte at CT
  rw [hm] at CT
  have HA := cutS_all s
  have hL : (cutS s s.size).1.length = m := by
    have := congrArg List.length HA
    rw [List.length_map, cutF_count, hm] at this; exact this
  have hmn : m ≤ s.size := by rw [← hL]; exact cutS_len s _
  have MK : ∀ W, (Instr.makeSlice 64 (.int .i64 (m : Int)) (.int .i64 (m : Int))).run Tryz.prog W = .ok (.slice (some ⟨W.heap.size, 0, none⟩) m m) (W.alloc (.cells (madeCells #[.string ⟨#[]⟩] m) 9)) := fun W => run_make_row _ _ i0 _ Tryz.underlying64 hi hz0 hz1 rfl .i64 .i64 m (by rw [hz2]; omega) (by omega) W
  by_cases hB : s.size ≠ 0 ∧ s.data.toList.getD (s.size - 1) 0 ≠ 10
  · obtain ⟨h2, h3⟩ := hB
    have E := Lib.hid (show linE s = 6 by unfold linE; rw [if_neg h1, if_neg h2, if_pos h3])
    have hlt : s.size - 1 < s.size := by omega
    rw [getD_at s _ hlt] at h3
    have he := isEmpty_pos s (by omega)
    have hix : IntKind.i64.wrap ((s.size : Int) - 1) = ((s.size - 1 : Nat) : Int) := by rw [show (s.size : Int) - 1 = ((s.size - 1 : Nat) : Int) by omega]; exact IntWalk.i64_in _ (by omega)
    have hi0 : (0 : Int) ≤ ((s.size - 1 : Nat) : Int) := by omega
    have hi1 : ((s.size - 1 : Nat) : Int) < (s.size : Int) := by omega
    have hb3 : (((s[s.size - 1]).toNat : Int) != 10) = true := by
      rw [bne_iff_ne]; intro e; exact h3 (u8_eq_of_int _ 10 (by decide) e)
    clear h1 h2 h3 hw CT MK HA hL
    go_enter Tryz.func27, Tryz.ntmps27
    go_wp2
    go_ret2
    exact ⟨_, by rw [E.out]; rfl, by unfold linR; rw [E.out]; exact SSl.nil _, hb⟩
  · have E := Lib.hid (show linE s = if 5000 < m then 3 else 0 by
      unfold linE
      rw [if_neg h1]
      by_cases h2 : s.size = 0
      · rw [if_pos h2, if_neg (by omega)]
      · rw [if_neg h2, if_neg (fun h => hB ⟨h2, h⟩), hL])
    obtain ⟨L, hLL⟩ : ∃ L, (cutS s s.size).1 = L := ⟨_, rfl⟩
    rw [hLL] at HA hL
    have HL := Lib.hid hL
    have HLL := Lib.hid hLL
    have HW := Lib.hid hw
    replace HA := Lib.hid HA
    clear hL hLL hm hw
    by_cases h2 : s.size = 0
    · have he : s.toList.isEmpty = true := by
        rw [toList_data, List.isEmpty_iff]
        exact List.eq_nil_of_length_eq_zero (by rw [length_data, h2])
      clear h1 h2 hB
      go_enter Tryz.func27, Tryz.ntmps27
      by_cases h5 : 5000 < m
      · have hb5 : decide ((5000 : Int) < (m : Int)) = true := decide_eq_true (by omega)
        have E3 := Lib.hid (show linE s = 3 by rw [E.out, if_pos h5])
        clear h5
        go_wp2_with (go_at_call 44; refine (CT.out _).mono ?_; rintro e w' ⟨rfl, rfl⟩)
        go_ret2
        exact ⟨_, by rw [E3.out]; rfl, by unfold linR; rw [E3.out]; exact SSl.nil _, hb⟩
      · have hb5 : decide ((5000 : Int) < (m : Int)) = false := decide_eq_false (by omega)
        have E3 := Lib.hid (show linE s = 0 by rw [E.out, if_neg h5])
        have H5 := Lib.hid h5
        clear h5
        go_wp2_with (go_at_call 44; refine (CT.out _).mono ?_; rintro e w' ⟨rfl, rfl⟩)
        have hb6 : Below w'.heap.size w' (w'.alloc (.cells (madeCells #[.string ⟨#[]⟩] m) 9)) := (Below.refl _ w').alloc (Nat.le_refl _) _
        go_loopw [0, 6, 7, 8, 9, 31] (fun r _ _ _ _ k wr => ∃ (j : Nat) (R : ByteArray), j ≤ m ∧ k = .int .i64 j ∧ r = .string R ∧ R.size ≤ s.size ∧ Hid ((L.drop j).map (fun b => b.data.toList) = cutF [] R.data.toList) ∧ wr.rowIs w'.heap.size 9 m (lnV L j) ∧ Below w'.heap.size w' wr) (fun _ _ _ _ _ k _ => m - (intOf k).toNat)
        case atStart => exact ⟨0, s, Nat.zero_le _, rfl, rfl, Nat.le_refl _, HA, (World.rowIs_made _ _ _ _).congr (fun i _ => by unfold lnV; rw [if_neg (by omega)]), hb6⟩
        case round =>
          clear hb6 hb MK
          obtain ⟨j, R, hj, rfl, rfl, hR, hrest, hrow, hb⟩ := hrel
          by_cases hlt : j < m
          · have hltb : decide ((j : Int) < (m : Int)) = true := decide_eq_true (by omega)
            have hjL : j < L.length := by rw [HL.out]; exact hlt
            have hr := hrest.out
            rw [List.drop_eq_getElem_cons hjL, List.map_cons] at hr
            have hmem : (10 : UInt8) ∈ R.data.toList := by
              have h := congrArg List.length hr
              rw [cutF_count, List.length_cons] at h
              exact List.count_pos_iff.1 (by omega)
            obtain ⟨i, hil, hcut, hcf⟩ := cut_pos hmem
            rw [hcf] at hr
            injection hr with hr1 hr2
            obtain ⟨x, hx⟩ : ∃ x, L[j] = x := ⟨_, rfl⟩
            have hx1 : (⟨(R.data.toList.take i).toArray⟩ : ByteArray) = x := by rw [← hr1, hx]
            obtain ⟨R', hR'⟩ : ∃ R' : ByteArray, R' = ⟨(R.data.toList.drop (i + 1)).toArray⟩ := ⟨_, rfl⟩
            have hR2 : Hid ((L.drop (j + 1)).map (fun b => b.data.toList) = cutF [] R'.data.toList) := Lib.hid (by rw [hr2, hR'])
            have hR3 : R'.size ≤ s.size := by
              have : R'.size = (R.data.toList.drop (i + 1)).length := by rw [hR']; exact size_mk _
              rw [List.length_drop, length_data] at this; omega
            obtain ⟨mm, hmm⟩ := (HW.out.below hb).ml
            have C := Lib.hid (Tryz.strings_Cut R ⟨#[10]⟩ mm wr (by omega) hmm)
            rw [show (⟨#[10]⟩ : ByteArray).data.toList = [10] from rfl, hcut] at C
            rw [show (⟨(R.data.toList.take i, R.data.toList.drop (i + 1), true).1.toArray⟩ : ByteArray) = x from hx1, show (⟨(R.data.toList.take i, R.data.toList.drop (i + 1), true).2.1.toArray⟩ : ByteArray) = R' from hR'.symm] at C
            have hxs : x.size ≤ 100000000000 := by
              have : x.size = (R.data.toList.take i).length := by rw [← hx1]; exact size_mk _
              have h2 := Nat.min_le_right i R.data.toList.length
              rw [List.length_take] at this
              rw [length_data] at this h2; omega
            have CL := Lib.hid (fun W => clone_any x W hxs)
            have HX := Lib.hid (show L.getD j ⟨#[]⟩ = x by rw [List.getD_eq_getElem?_getD, List.getElem?_eq_getElem hjL, hx]; rfl)
            have HR := Lib.hid hrow
            clear hrow hrest hr1 hr2 hmem hil hcut hcf hx hx1 hmm hR' hjL hxs
            go_wp2_with (first
              | (go_at_call 28; refine C.out.mono ?_; rintro e w1 ⟨rfl, d, rfl⟩)
              | (go_at_call 45; refine (CL.out _).mono ?_; rintro e w2 ⟨rfl, hb2⟩
                 have hrow2 := HR.out.of_block (hb2.block _ HR.out.lt)
                 have hc0 := hrow2.cell hlt
                 have hf0 := hrow2.frozen j
                 have HR2 := Lib.hid hrow2
                 clear hrow2))
            go_roundw
            case rel =>
              refine ⟨j + 1, R', by omega, by go_num, rfl, hR3, hR2, (HR2.out.set j (.string x)).congr (fun a ha => ?_), ((hb.trans (⟨rfl, rfl, rfl, Nat.le_refl _, fun _ _ => rfl⟩ : Below w'.heap.size wr (wr.drewN d))).trans (hb2.mono hb.size)).setCell (Nat.le_refl _) _⟩
              unfold lnV
              by_cases e : a = j
              · rw [if_pos e, e, if_pos (by omega), HX.out]
              · rw [if_neg e]
                by_cases e2 : a < j
                · rw [if_pos e2, if_pos (by omega)]
                · rw [if_neg e2, if_neg (by omega)]
            case measure => simp [intOf]; omega
          · obtain rfl : j = m := by omega
            have hltb : decide ((j : Int) < (j : Int)) = false := decide_eq_false (by omega)
            have HR := Lib.hid hrow
            clear hrow hrest
            go_wp2
            go_ret2
            refine ⟨_, by rw [E3.out]; rfl, ?_, hb⟩
            have e1 : linR s = L := by unfold linR; rw [E3.out, if_pos rfl, HLL.out]
            rw [e1]
            have := HR.out
            rw [← HL.out] at this ⊢
            exact SSl.of_row this
    · have h3 : s.data.toList.getD (s.size - 1) 0 = 10 := by
        by_cases h : s.data.toList.getD (s.size - 1) 0 = 10
        · exact h
        · exact absurd ⟨h2, h⟩ hB
      have hlt1 : s.size - 1 < s.size := by omega
      rw [getD_at s _ hlt1] at h3
      have he := isEmpty_pos s (by omega)
      have hix : IntKind.i64.wrap ((s.size : Int) - 1) = ((s.size - 1 : Nat) : Int) := by rw [show (s.size : Int) - 1 = ((s.size - 1 : Nat) : Int) by omega]; exact IntWalk.i64_in _ (by omega)
      have hi0 : (0 : Int) ≤ ((s.size - 1 : Nat) : Int) := by omega
      have hi1 : ((s.size - 1 : Nat) : Int) < (s.size : Int) := by omega
      have hb3 : (((s[s.size - 1]).toNat : Int) != 10) = false := by rw [h3]; rfl
      clear h1 h2 hB h3
      go_enter Tryz.func27, Tryz.ntmps27
      by_cases h5 : 5000 < m
      · have hb5 : decide ((5000 : Int) < (m : Int)) = true := decide_eq_true (by omega)
        have E3 := Lib.hid (show linE s = 3 by rw [E.out, if_pos h5])
        clear h5
        go_wp2_with (go_at_call 44; refine (CT.out _).mono ?_; rintro e w' ⟨rfl, rfl⟩)
        go_ret2
        exact ⟨_, by rw [E3.out]; rfl, by unfold linR; rw [E3.out]; exact SSl.nil _, hb⟩
      · have hb5 : decide ((5000 : Int) < (m : Int)) = false := decide_eq_false (by omega)
        have E3 := Lib.hid (show linE s = 0 by rw [E.out, if_neg h5])
        have H5 := Lib.hid h5
        clear h5
        go_wp2_with (go_at_call 44; refine (CT.out _).mono ?_; rintro e w' ⟨rfl, rfl⟩)
        have hb6 : Below w'.heap.size w' (w'.alloc (.cells (madeCells #[.string ⟨#[]⟩] m) 9)) := (Below.refl _ w').alloc (Nat.le_refl _) _
        go_loopw [0, 6, 7, 8, 9, 31] (fun r _ _ _ _ k wr => ∃ (j : Nat) (R : ByteArray), j ≤ m ∧ k = .int .i64 j ∧ r = .string R ∧ R.size ≤ s.size ∧ Hid ((L.drop j).map (fun b => b.data.toList) = cutF [] R.data.toList) ∧ wr.rowIs w'.heap.size 9 m (lnV L j) ∧ Below w'.heap.size w' wr) (fun _ _ _ _ _ k _ => m - (intOf k).toNat)
        case atStart => exact ⟨0, s, Nat.zero_le _, rfl, rfl, Nat.le_refl _, HA, (World.rowIs_made _ _ _ _).congr (fun i _ => by unfold lnV; rw [if_neg (by omega)]), hb6⟩
        case round =>
          clear hb6 hb MK
          obtain ⟨j, R, hj, rfl, rfl, hR, hrest, hrow, hb⟩ := hrel
          by_cases hlt : j < m
          · have hltb : decide ((j : Int) < (m : Int)) = true := decide_eq_true (by omega)
            have hjL : j < L.length := by rw [HL.out]; exact hlt
            have hr := hrest.out
            rw [List.drop_eq_getElem_cons hjL, List.map_cons] at hr
            have hmem : (10 : UInt8) ∈ R.data.toList := by
              have h := congrArg List.length hr
              rw [cutF_count, List.length_cons] at h
              exact List.count_pos_iff.1 (by omega)
            obtain ⟨i, hil, hcut, hcf⟩ := cut_pos hmem
            rw [hcf] at hr
            injection hr with hr1 hr2
            obtain ⟨x, hx⟩ : ∃ x, L[j] = x := ⟨_, rfl⟩
            have hx1 : (⟨(R.data.toList.take i).toArray⟩ : ByteArray) = x := by rw [← hr1, hx]
            obtain ⟨R', hR'⟩ : ∃ R' : ByteArray, R' = ⟨(R.data.toList.drop (i + 1)).toArray⟩ := ⟨_, rfl⟩
            have hR2 : Hid ((L.drop (j + 1)).map (fun b => b.data.toList) = cutF [] R'.data.toList) := Lib.hid (by rw [hr2, hR'])
            have hR3 : R'.size ≤ s.size := by
              have : R'.size = (R.data.toList.drop (i + 1)).length := by rw [hR']; exact size_mk _
              rw [List.length_drop, length_data] at this; omega
            obtain ⟨mm, hmm⟩ := (HW.out.below hb).ml
            have C := Lib.hid (Tryz.strings_Cut R ⟨#[10]⟩ mm wr (by omega) hmm)
            rw [show (⟨#[10]⟩ : ByteArray).data.toList = [10] from rfl, hcut] at C
            rw [show (⟨(R.data.toList.take i, R.data.toList.drop (i + 1), true).1.toArray⟩ : ByteArray) = x from hx1, show (⟨(R.data.toList.take i, R.data.toList.drop (i + 1), true).2.1.toArray⟩ : ByteArray) = R' from hR'.symm] at C
            have hxs : x.size ≤ 100000000000 := by
              have : x.size = (R.data.toList.take i).length := by rw [← hx1]; exact size_mk _
              have h2 := Nat.min_le_right i R.data.toList.length
              rw [List.length_take] at this
              rw [length_data] at this h2; omega
            have CL := Lib.hid (fun W => clone_any x W hxs)
            have HX := Lib.hid (show L.getD j ⟨#[]⟩ = x by rw [List.getD_eq_getElem?_getD, List.getElem?_eq_getElem hjL, hx]; rfl)
            have HR := Lib.hid hrow
            clear hrow hrest hr1 hr2 hmem hil hcut hcf hx hx1 hmm hR' hjL hxs
            go_wp2_with (first
              | (go_at_call 28; refine C.out.mono ?_; rintro e w1 ⟨rfl, d, rfl⟩)
              | (go_at_call 45; refine (CL.out _).mono ?_; rintro e w2 ⟨rfl, hb2⟩
                 have hrow2 := HR.out.of_block (hb2.block _ HR.out.lt)
                 have hc0 := hrow2.cell hlt
                 have hf0 := hrow2.frozen j
                 have HR2 := Lib.hid hrow2
                 clear hrow2))
            go_roundw
            case rel =>
              refine ⟨j + 1, R', by omega, by go_num, rfl, hR3, hR2, (HR2.out.set j (.string x)).congr (fun a ha => ?_), ((hb.trans (⟨rfl, rfl, rfl, Nat.le_refl _, fun _ _ => rfl⟩ : Below w'.heap.size wr (wr.drewN d))).trans (hb2.mono hb.size)).setCell (Nat.le_refl _) _⟩
              unfold lnV
              by_cases e : a = j
              · rw [if_pos e, e, if_pos (by omega), HX.out]
              · rw [if_neg e]
                by_cases e2 : a < j
                · rw [if_pos e2, if_pos (by omega)]
                · rw [if_neg e2, if_neg (by omega)]
            case measure => simp [intOf]; omega
          · obtain rfl : j = m := by omega
            have hltb : decide ((j : Int) < (j : Int)) = false := decide_eq_false (by omega)
            have HR := Lib.hid hrow
            clear hrow hrest
            go_wp2
            go_ret2
            refine ⟨_, by rw [E3.out]; rfl, ?_, hb⟩
            have e1 : linR s = L := by unfold linR; rw [E3.out, if_pos rfl, HLL.out]
            rw [e1]
            have := HR.out
            rw [← HL.out] at this ⊢
            exact SSl.of_row this
end Go.Proofs.YtihhgnjkmhdpmaaGreatDoor.W
