/- Layer 4: each, Key, Sets. -/
import Derived.Test.YtnpfdnpklopnkaaFD
import Derived.Deep.OwnRows
import Derived.Deep.MidRow
import Derived.Laws.IdiomStrings
namespace Go.Proofs.Ytnpfdnpklopnkaa
open Go.RowKit
theorem mk_u8 (n : Nat) (hn : n ≤ 2000000000) (W : World) : (Instr.makeSlice 49 (.int .i64 (n : Int)) (.int .i64 (n : Int))).run Try.prog W = .ok (.slice (some ⟨W.heap.size, 0, none⟩) n n) (W.alloc (.cells (madeCells #[.int .u8 0] n) 5)) := by
  obtain ⟨i0, hi, hz0, hz1, hz2⟩ := info_parts info_u8
  exact run_make_row _ _ i0 _ Try.underlying49 hi hz0 hz1 rfl .i64 .i64 n (by rw [hz2]; omega) (by omega) W
/-- Byte j of the key, of which k bytes are made. -/
def keyR (s : ByteArray) (k j : Nat) : Value := .int .u8 ((if j < k then lowU (s.data.toList.getD j 0) else 0).toNat : Int)
theorem getD_at (s : ByteArray) (d : UInt8) {k : Nat} (h : k < s.size) : s.data.toList.getD k d = s[k] := by
  rw [List.getD_eq_getElem?_getD, List.getElem?_eq_getElem (by simpa using h)]; rfl
set_option maxHeartbeats 400000 in
set_option maxRecDepth 100000 in
theorem eachB_any (s : ByteArray) (w : World) (hs : s.size ≤ 1000000000) : Calls Try.prog 54 #[.string s, .func (.func 13) #[] #[]] w fun e w' => ∃ B, e = .returned (.slice (some ⟨B, 0, none⟩) s.size s.size) ∧ w'.rowIs B 5 s.size (keyR s s.size) ∧ Below w.heap.size w w' := by
  have MK := mk_u8 s.size (by omega) w
  go_enter Try.func54, Try.ntmps54
  go_wp2
  clear MK
  go_loopw [6, 12] (fun _ i wr => ∃ k : Nat, k ≤ s.size ∧ i = .int .i64 (k : Int) ∧ wr.rowIs w.heap.size 5 s.size (keyR s k) ∧ Below w.heap.size w wr) (fun _ i _ => s.size - (intOf i).toNat)
  case atStart => exact ⟨0, Nat.zero_le _, rfl, (World.rowIs_made _ _ _ _).congr (fun i _ => by simp [keyR]), (Below.refl _ w).alloc (Nat.le_refl _) _⟩
  case round =>
    obtain ⟨k, hk, rfl, hrow, hb⟩ := hrel
    by_cases hlt : k < s.size
    · have hltb : decide ((k : Int) < (s.size : Int)) = true := decide_eq_true (by omega)
      have L := Lib.hid (lower_any s[k].toNat wr (UInt8.toNat_lt _))
      have HK := Lib.hid (getD_at s 0 hlt)
      have hs1 := hb.size
      go_wp2_with (go_at_call 13; (with_reducible refine L.out.mono ?_); rintro e w2 ⟨rfl, hb2⟩; have row2 := hrow.of_block (hb2.block _ hrow.lt); have hc0 := row2.cell hlt; have hf0 := row2.frozen k; have HR := Lib.hid row2; clear hrow row2)
      go_roundw
      case rel =>
        refine ⟨k + 1, by omega, by go_num, (HR.out.set k (.int .u8 ((lowN s[k].toNat : Nat) : Int))).congr (fun j hj => ?_), (hb.trans (hb2.mono hb.size)).setCell (Nat.le_refl _) _⟩
        unfold keyR
        by_cases e : j = k
        · rw [if_pos e, e, if_pos (by omega), HK.out, lowU_nat]
        · rw [if_neg e]
          by_cases e2 : j < k
          · rw [if_pos e2, if_pos (by omega)]
          · rw [if_neg e2, if_neg (by omega)]
      case measure => simp [intOf]; omega
    · obtain rfl : k = s.size := by omega
      have hltb : decide ((s.size : Int) < (s.size : Int)) = false := decide_eq_false (by omega)
      have HR := Lib.hid hrow
      clear hrow
      go_wp2
      go_ret
      exact ⟨_, rfl, HR.out, hb⟩
theorem row_key {w : World} {B : Nat} {s : ByteArray} (h : w.rowIs B 5 s.size (keyR s s.size)) : (convert 49 9 (.slice (some ⟨B, 0, none⟩) s.size s.size)).run Try.prog w = .ok (.string (keyS s)) w := by
  have ad : ∀ j, (⟨B, 0, none⟩ : Addr).add j = ⟨B, j, none⟩ := fun j => by cases j <;> simp [Addr.add]
  have hl : (keyL s.data.toList).length = s.size := by unfold keyL; simp
  have := run_convert_bytes_back (P := Try.prog) w 49 9 5 ⟨B, 0, none⟩ s.size (keyL s.data.toList) Try.underlying49 Try.underlying5 Try.underlying9 (fun j hj => by
    rw [hl] at hj
    rw [ad, h.cell hj]
    unfold keyR
    rw [if_pos hj, getD_at s 0 hj]
    simp [keyL]
    rfl)
  rw [hl] at this
  exact this
theorem key_any (s : ByteArray) (w : World) (hs : s.size ≤ 1000000000) : Calls Try.prog 28 #[.string s] w (NumP w (.string (keyS s))) := by
  have E := Lib.hid (eachB_any s w hs)
  go_enter Try.func28, Try.ntmps28
  go_wp2_with (go_at_call 54; refine E.out.mono ?_; rintro e w2 ⟨B, rfl, hrow, hb2⟩; have cv := row_key hrow)
  go_ret
  exact ⟨rfl, hb2⟩
end Go.Proofs.Ytnpfdnpklopnkaa
