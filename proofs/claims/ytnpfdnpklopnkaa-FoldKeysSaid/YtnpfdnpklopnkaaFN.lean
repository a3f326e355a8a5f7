/- Layer 4: the reference's Alike, Key, Compare, Sets, SameSets. -/
import Derived.Test.YtnpfdnpklopnkaaFJ
import Derived.Laws.IdiomStrings
namespace Go.Proofs.Ytnpfdnpklopnkaa
open Go.RowKit
attribute [local go_sem] eq4 guard4
theorem keyL_len (l : List UInt8) : (keyL l).length = l.length := by unfold keyL; rw [List.length_map]
/-- Two strings of one length are alike exactly if their bytes are. -/
theorem alike_len {a b : ByteArray} (h : a.size ≠ b.size) : alikeL a.data.toList b.data.toList = false := by
  rw [Bool.eq_false_iff]; intro e
  have := congrArg List.length (alikeL_iff.1 e)
  rw [keyL_len, keyL_len, length_data, length_data] at this
  exact h this
theorem key_take_succ (a : ByteArray) {k : Nat} (h : k < a.size) : keyL (a.data.toList.take (k + 1)) = keyL (a.data.toList.take k) ++ [lowU a[k]] := by
  rw [List.take_succ_eq_append_getElem (by simpa using h)]
  unfold keyL; rw [List.map_append]; rfl
theorem alike_no {a b : ByteArray} {k : Nat} (ha : k < a.size) (hb : k < b.size) (h : sameN a[k].toNat b[k].toNat = false) : alikeL a.data.toList b.data.toList = false := by
  rw [Bool.eq_false_iff]; intro e
  have e1 := alikeL_iff.1 e
  have e2 : lowU a[k] = lowU b[k] := by
    have := congrArg (fun l => l[k]?) e1
    simp only [keyL, List.getElem?_map] at this
    rw [List.getElem?_eq_getElem (by simpa using ha), List.getElem?_eq_getElem (by simpa using hb)] at this
    exact Option.some.inj this
  have e3 := congrArg UInt8.toNat e2
  rw [lowU_nat, lowU_nat] at e3
  unfold sameN at h; rw [e3] at h; simp at h
set_option maxHeartbeats 400000 in
set_option maxRecDepth 100000 in
theorem ralike_any (a b : ByteArray) (w : World) (ha : a.size ≤ 1000000000) : Calls Try.prog 27 #[.string a, .string b] w (NumP w (.bool (alikeL a.data.toList b.data.toList))) := by
  by_cases hl : a.size = b.size
  · have hlb : ((a.size : Int) != (b.size : Int)) = false := by simp [hl]
    have HL := Lib.hid hl
    clear hl
    go_enter Try.func27, Try.ntmps27
    go_wp2
    go_loopw [5] (fun i wr => ∃ k : Nat, k ≤ a.size ∧ i = .int .i64 (k : Int) ∧ Hid (keyL (a.data.toList.take k) = keyL (b.data.toList.take k)) ∧ Below w.heap.size w wr) (fun i _ => a.size - (intOf i).toNat)
    case atStart => exact ⟨0, Nat.zero_le _, rfl, Lib.hid (by simp), Below.refl _ _⟩
    case round =>
      obtain ⟨k, hk, rfl, he, hbw⟩ := hrel
      by_cases hlt : k < a.size
      · have hltb : decide ((k : Int) < (a.size : Int)) = true := decide_eq_true (by omega)
        have hkb : k < b.size := by rw [← HL.out]; exact hlt
        have S := fun w => rsame_any a[k].toNat b[k].toNat w (UInt8.toNat_lt _) (UInt8.toNat_lt _)
        rcases hs : sameN a[k].toNat b[k].toNat with _ | _
        · rw [hs] at S
          replace S := Lib.hid S
          have R := Lib.hid (alike_no hlt hkb hs)
          clear hs
          go_wp2
          go_quiet ((go_at_call 12; exact Calls.quiet_of_same ((S.out _).mono (by rintro e w' ⟨rfl, rfl⟩; exact ⟨rfl, rfl⟩))))
          go_wp2
          go_ret
          exact ⟨ret_bool R.out.symm, hbw.trans ⟨rfl, rfl, rfl, Nat.le_refl _, fun _ _ => rfl⟩⟩
        · rw [hs] at S
          replace S := Lib.hid S
          have R := Lib.hid (show lowU a[k] = lowU b[k] by
            apply UInt8.toNat_inj.1; rw [lowU_nat, lowU_nat]; unfold sameN at hs; simpa using hs)
          clear hs
          go_wp2
          go_quiet ((go_at_call 12; exact Calls.quiet_of_same ((S.out _).mono (by rintro e w' ⟨rfl, rfl⟩; exact ⟨rfl, rfl⟩))))
          go_wp2
          go_roundw
          case rel => exact ⟨k + 1, by omega, by go_num, Lib.hid (by rw [key_take_succ a hlt, key_take_succ b hkb, he.out, R.out]), hbw.trans ⟨rfl, rfl, rfl, Nat.le_refl _, fun _ _ => rfl⟩⟩
          case measure => simp [intOf]; omega
      · obtain rfl : k = a.size := by omega
        have hltb : decide ((a.size : Int) < (a.size : Int)) = false := decide_eq_false (by omega)
        have R := Lib.hid (show alikeL a.data.toList b.data.toList = true by
          rw [alikeL_iff]
          have := he.out
          rw [take_size] at this
          rw [this, HL.out, take_size])
        clear he
        go_wp2
        go_ret
        exact ⟨ret_bool R.out.symm, hbw⟩
  · have hlb : ((a.size : Int) != (b.size : Int)) = true := by simp; omega
    have R := Lib.hid (alike_len hl)
    clear hl
    go_enter Try.func27, Try.ntmps27
    go_wp2
    go_ret
    exact ⟨ret_bool R.out.symm, Below.refl _ _⟩
/-- Block B holds the bytes of a, of which the first k are made small. -/
def KRow (W : World) (B k : Nat) (a : ByteArray) : Prop :=
  ∃ (C : Array Value) (m : Nat), W.heap[B]? = some (.cells C 5 (m, m + 1)) ∧ a.size ≤ C.size ∧ C.size ≤ m ∧ ∀ j, j < a.size → C[j]? = some (.int .u8 ((if j < k then lowU (a.data.toList.getD j 0) else a.data.toList.getD j 0).toNat : Int))
theorem KRow.lt {W : World} {B k : Nat} {a : ByteArray} (h : KRow W B k a) : B < W.heap.size := by
  obtain ⟨C, m, h, _⟩ := h; exact (Array.getElem?_eq_some_iff.1 h).1
theorem KRow.cell {W : World} {B k j : Nat} {a : ByteArray} (h : KRow W B k a) (hj : j < a.size) : W.cell? ⟨B, j, none⟩ = some (.int .u8 ((if j < k then lowU (a.data.toList.getD j 0) else a.data.toList.getD j 0).toNat : Int)) := by
  obtain ⟨C, m, h, _, _, hc⟩ := h
  rw [cell_of_row _ _ _ _ _ _ h]; exact hc j hj
theorem KRow.here {W : World} {B k : Nat} {a : ByteArray} (h : KRow W B k a) (hk : k < a.size) : W.cell? ⟨B, k, none⟩ = some (.int .u8 (a[k].toNat : Int)) := by
  rw [h.cell hk, if_neg (by omega), getD_at a 0 hk]
theorem KRow.frozen {W : World} {B k j : Nat} {a : ByteArray} (h : KRow W B k a) (hj : j < a.size) : W.frozen? ⟨B, j, none⟩ = false := by
  obtain ⟨C, m, h, h1, h2, _⟩ := h
  simp [World.frozen?, h]; omega
theorem KRow.set {W : World} {B k : Nat} {a : ByteArray} (h : KRow W B k a) (hk : k < a.size) : KRow (W.setCell ⟨B, k, none⟩ (.int .u8 (lowN a[k].toNat : Int))) B (k + 1) a := by
  obtain ⟨C, m, h, h1, h2, hc⟩ := h
  have e : (W.setCell ⟨B, k, none⟩ (.int .u8 (lowN a[k].toNat : Int))).heap[B]? = some (.cells (C.setIfInBounds k (.int .u8 (lowN a[k].toNat : Int))) 5 (m, m + 1)) := by
    simp only [World.setCell, Array.getElem?_modify, if_true, h]
    rfl
  refine ⟨_, m, e, by simpa using h1, by simpa using h2, fun j hj => ?_⟩
  by_cases ejk : j = k
  · subst ejk
    rw [if_pos (by omega), getD_at a 0 hk, lowU_nat, Array.getElem?_setIfInBounds_self_of_lt (by omega)]
  · rw [Array.getElem?_setIfInBounds_ne (by omega), hc j hj]
    by_cases e2 : j < k
    · rw [if_pos e2, if_pos (by omega)]
    · rw [if_neg e2, if_neg (by omega)]
theorem conv_str (a : ByteArray) (w : World) : ∃ c W', (convert 9 49 (.string a)).run Try.prog w = .ok (.slice (some ⟨w.heap.size, 0, none⟩) a.size c) W' ∧ a.size ≤ c ∧ Below w.heap.size w W' ∧ KRow W' w.heap.size 0 a := by
  refine ⟨_, _, run_bytes_of_string w _ _ _ a Try.underlying9 Try.underlying49 Try.underlying5, grownCap_ge _ _ _ _, ?_, ?_⟩
  · exact (Below.refl _ w).drew.alloc (Nat.le_refl _) _
  · have hg := grownCap_ge w a.size 0 5
    have hs : (bytesRow a (grownCap w a.size 0 5)).size = grownCap w a.size 0 5 := by
      unfold bytesRow; simp; omega
    refine ⟨_, _, heap_alloc_new w.drew _, by rw [hs]; exact hg, Nat.le_refl _, fun j hj => ?_⟩
    rw [if_neg (by omega), getD_at a 0 hj]
    unfold bytesRow
    rw [Array.getElem?_append_left (by simpa using hj)]
    simp [hj]
    rfl
theorem KRow.back {W : World} {B c : Nat} {a : ByteArray} (h : KRow W B a.size a) : (convert 49 9 (.slice (some ⟨B, 0, none⟩) a.size c)).run Try.prog W = .ok (.string (keyS a)) W := by
  have ad : ∀ j, (⟨B, 0, none⟩ : Addr).add j = ⟨B, j, none⟩ := fun j => by cases j <;> simp [Addr.add]
  have hl : (keyL a.data.toList).length = a.size := by unfold keyL; simp
  have := run_convert_bytes_back (P := Try.prog) W 49 9 5 ⟨B, 0, none⟩ c (keyL a.data.toList) Try.underlying49 Try.underlying5 Try.underlying9 (fun j hj => by
    rw [hl] at hj
    rw [ad, h.cell hj, if_pos hj, getD_at a 0 hj]
    simp [keyL]
    rfl)
  rw [hl] at this
  exact this
set_option maxHeartbeats 400000 in
set_option maxRecDepth 100000 in
theorem rkey_any (a : ByteArray) (w : World) (ha : a.size ≤ 1000000000) : Calls Try.prog 29 #[.string a] w (NumP w (.string (keyS a))) := by
  obtain ⟨c, W0, cv, hc, hb0, hk0⟩ := conv_str a w
  go_enter Try.func29, Try.ntmps29
  go_wp2
  clear cv
  go_loopw [4] (fun i wr => ∃ k : Nat, k ≤ a.size ∧ i = .int .i64 (k : Int) ∧ KRow wr w.heap.size k a ∧ Below w.heap.size w wr) (fun i _ => a.size - (intOf i).toNat)
  case atStart => exact ⟨0, Nat.zero_le _, rfl, hk0, hb0⟩
  case round =>
    clear hk0 hb0
    obtain ⟨k, hk, rfl, hr, hb⟩ := hrel
    by_cases hlt : k < a.size
    · have hltb : decide ((k : Int) < (a.size : Int)) = true := decide_eq_true (by omega)
      have hki : (k : Int) < (a.size : Int) := by omega
      have L := Lib.hid (fun w => rlower_any a[k].toNat w (UInt8.toNat_lt _))
      have hck := hr.here hlt
      have hfk := hr.frozen hlt
      have HR := Lib.hid (hr.set hlt)
      clear hr
      go_wp2_with (go_at_call 14; (with_reducible refine (L.out _).mono ?_); rintro e w' ⟨rfl, rfl⟩)
      go_roundw
      case rel => exact ⟨k + 1, by omega, by go_num, HR.out, hb.setCell (p := ⟨w.heap.size, k, none⟩) (Nat.le_refl _) _⟩
      case measure => simp [intOf]; omega
    · obtain rfl : k = a.size := by omega
      have hltb : decide ((a.size : Int) < (a.size : Int)) = false := decide_eq_false (by omega)
      have cv := hr.back (c := c)
      clear hr
      go_wp2
      go_ret
      exact ⟨rfl, hb⟩
end Go.Proofs.Ytnpfdnpklopnkaa
