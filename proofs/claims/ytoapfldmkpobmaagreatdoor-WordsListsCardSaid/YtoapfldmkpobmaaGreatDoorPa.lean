/- Layer 1: ParseList's lower and readSpan, walked. -/
import Derived.Test.YtoapfldmkpobmaaGreatDoorZ
namespace Go.Proofs.YtoapfldmkpobmaaGreatDoor
open Go.RowKit
theorem below_drewP (w : World) (d : Nat) : Below w.heap.size w (w.drewN d) := ⟨rfl, rfl, rfl, Nat.le_refl _, fun _ _ => rfl⟩
def lowB (a b : ByteArray) : Bool := if a.size = b.size then Op.bytesLess a.toList b.toList else decide (a.size < b.size)
theorem lower_any (a b : ByteArray) (w : World) : Calls Tryz.prog 37 #[.string a, .string b] w fun e w' => e = .returned (.bool (lowB a b)) ∧ w = w' := by
  by_cases h : a.size = b.size
  · have HL := Lib.hid (show lowB a b = Op.bytesLess a.toList b.toList by unfold lowB; rw [if_pos h])
    have hn : ((a.size : Int) != (b.size : Int)) = false := by rw [h]; simp
    clear h
    go_enter Tryz.func37, Tryz.ntmps37
    go_wp2
    go_ret
    exact ⟨ret_bool HL.out.symm, rfl⟩
  · have HL := Lib.hid (show lowB a b = decide (a.size < b.size) by unfold lowB; rw [if_neg h])
    have hn : ((a.size : Int) != (b.size : Int)) = true := by rw [bne_iff_ne]; omega
    have hd : decide ((a.size : Int) < (b.size : Int)) = decide (a.size < b.size) := by
      by_cases h2 : a.size < b.size
      · rw [decide_eq_true h2]; exact decide_eq_true (by omega)
      · rw [decide_eq_false h2]; exact decide_eq_false (by omega)
    have HD := Lib.hid hd
    clear h hd
    go_enter Tryz.func37, Tryz.ntmps37
    go_wp2
    go_ret
    exact ⟨by rw [HL.out, ← HD.out]; rfl, rfl⟩
/-- The two ends of a run, and whether it is one. -/
def spF (s : ByteArray) : ByteArray := ⟨(Lib.cut s.data.toList [45]).1.toArray⟩
def spL (s : ByteArray) : ByteArray := if (Lib.cut s.data.toList [45]).2.2 then ⟨(Lib.cut s.data.toList [45]).2.1.toArray⟩ else spF s
def spB (s : ByteArray) : Bool := natL (spF s).data.toList && (!(Lib.cut s.data.toList [45]).2.2 || (natL (spL s).data.toList && lowB (spF s) (spL s)))
theorem cut_le (l sep : List UInt8) : (Lib.cut l sep).1.length ≤ l.length ∧ (Lib.cut l sep).2.1.length ≤ l.length := by
  unfold Lib.cut
  split
  · simp; omega
  · simp
set_option maxHeartbeats 800000 in
set_option maxRecDepth 100000 in
theorem readSpan_any (s : ByteArray) (w : World) (hw : LW w) (hs : s.size ≤ 4000000000) : Calls Tryz.prog 36 #[.string s] w fun e w' => e = .returned (.tuple #[.agg #[.string (spF s), .string (spL s)], .bool (spB s)]) ∧ Below w.heap.size w w' := by
  have hbx : Below w.heap.size w (w.alloc (.cells #[.string ⟨#[]⟩, .string ⟨#[]⟩] 51)) := (Below.refl _ w).alloc (Nat.le_refl _) _
  obtain ⟨mm, hmm⟩ := (hw.below hbx).ml
  have C := Lib.hid (Tryz.strings_Cut s ⟨#[45]⟩ mm _ (by omega) hmm)
  rw [show (⟨#[45]⟩ : ByteArray).data.toList = [45] from rfl] at C
  obtain ⟨l1, l2⟩ := cut_le s.data.toList [45]
  rw [length_data] at l1 l2
  have DF : spF s = ⟨(Lib.cut s.data.toList [45]).1.toArray⟩ := rfl
  have DL : spL s = if (Lib.cut s.data.toList [45]).2.2 then ⟨(Lib.cut s.data.toList [45]).2.1.toArray⟩ else spF s := rfl
  have DB : spB s = (natL (spF s).data.toList && (!(Lib.cut s.data.toList [45]).2.2 || (natL (spL s).data.toList && lowB (spF s) (spL s)))) := rfl
  have s1 : (⟨(Lib.cut s.data.toList [45]).1.toArray⟩ : ByteArray).size ≤ 4000000000 := by rw [size_mk]; omega
  have s2 : (⟨(Lib.cut s.data.toList [45]).2.1.toArray⟩ : ByteArray).size ≤ 4000000000 := by rw [size_mk]; omega
  generalize spF s = SF at *
  generalize spL s = SL at *
  generalize spB s = SB at *
  generalize (⟨(Lib.cut s.data.toList [45]).1.toArray⟩ : ByteArray) = F at *
  generalize (⟨(Lib.cut s.data.toList [45]).2.1.toArray⟩ : ByteArray) = G at *
  generalize (Lib.cut s.data.toList [45]).2.2 = two at *
  subst DF
  have NF := Lib.hid (fun W => natural_any SF W (by simp only [maxLen]; omega))
  have NG := Lib.hid (fun W => natural_any G W (by simp only [maxLen]; omega))
  have LO := Lib.hid (fun W => lower_any SF G W)
  clear hw hmm s1 s2 l1 l2
  have hbw := fun d (a b : ByteArray) => Lib.hid (show Below w.heap.size w ((((w.alloc (.cells #[.string ⟨#[]⟩, .string ⟨#[]⟩] 51)).drewN d).setCell ⟨w.heap.size, 0, none⟩ (.string a)).setCell ⟨w.heap.size, 1, none⟩ (.string b)) from Below.setCell (Below.setCell (hbx.trans ((below_drewP _ d).mono (by simp))) (Nat.le_refl _) _) (Nat.le_refl _) _)
  have HBW := Lib.hid hbw
  have HB := Lib.hid DB
  have HL := Lib.hid DL
  clear DB DL hbw
  cases two
  · obtain rfl : SL = SF := by simpa using HL.out
    go_enter Tryz.func36, Tryz.ntmps36
    go_wp2_with (first
      | (go_at_call 52; refine C.out.mono ?_; rintro e w1 ⟨rfl, d, rfl⟩)
      | (go_at_call 44; refine (NF.out _).mono ?_; rintro e w1 ⟨rfl, rfl⟩))
    refine bodyPost_ret (v := .tuple #[.agg #[.string SL, .string SL], .bool (natL SL.data.toList)]) ?_ rfl ?_
    · simp [results, Tryz.results36, go_sem]
    · exact ⟨by rw [HB.out]; simp, (HBW.out _ _ _).out⟩
  · obtain rfl : SL = G := by simpa using HL.out
    have HB2 := Lib.hid (show SB = (natL SF.data.toList && (natL SL.data.toList && lowB SF SL)) by rw [HB.out]; simp)
    generalize natL SF.data.toList = nf at *
    generalize natL SL.data.toList = ng at *
    generalize lowB SF SL = lo at *
    clear HB HL
    cases nf <;> cases ng <;> (
      go_enter Tryz.func36, Tryz.ntmps36
      go_wp2_with (first
        | (go_at_call 52; refine C.out.mono ?_; rintro e w1 ⟨rfl, d, rfl⟩)
        | (go_at_call 37; refine (LO.out _).mono ?_; rintro e w1 ⟨rfl, rfl⟩)
        | (go_at_call 44; first
          | ((with_reducible refine (NF.out _).mono ?_); rintro e w1 ⟨rfl, rfl⟩)
          | ((with_reducible refine (NG.out _).mono ?_); rintro e w1 ⟨rfl, rfl⟩)))
      refine bodyPost_ret (v := .tuple #[.agg #[.string SF, .string SL], .bool SB]) ?_ rfl ?_
      · simp [results, Tryz.results36, go_sem, HB2.out]
      · exact ⟨rfl, (HBW.out _ _ _).out⟩)
end Go.Proofs.YtoapfldmkpobmaaGreatDoor
