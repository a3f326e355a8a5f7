/- Layer 4: letters: isLetter, small, other; onBytes; Lower, Same. -/
import Derived.Test.YtnpfdnpklopnkaaCMk
import Derived.Test.YtnpfdnpklopnkaaFPlain
namespace Go.Proofs.Ytnpfdnpklopnkaa
open Go.RowKit
theorem isLetter_any (c : Nat) (w : World) (hc : c < 256) : Calls Try.prog 61 #[.int .u8 (c : Int)] w fun e w' => e = .returned (.bool (letB c)) ∧ w = w' := by
  have L := Lib.hid (let_all ⟨c, hc⟩)
  go_enter Try.func61, Try.ntmps61
  go_wp2
  case _ h =>
    go_ret
    exact ⟨ret_bool (by rw [← L.out]; simp [h]), rfl⟩
  case _ h =>
    go_ret
    exact ⟨ret_bool (by rw [← L.out]; simp [h]), rfl⟩
theorem small_any (c : Nat) (w : World) (hc : c < 256) : Calls Try.prog 45 #[.int .u8 (c : Int)] w fun e w' => e = .returned (.int .u8 (lowN c : Int)) ∧ w = w' := by
  have I := isLetter_any c w hc
  rcases hl : letB c with _ | _
  · have e1 := low_no hl
    rw [hl] at I
    replace I := Lib.hid I
    clear hl
    go_enter Try.func45, Try.ntmps45
    go_wp2_with (go_at_call 61; refine I.out.mono ?_; rintro e w' ⟨rfl, rfl⟩)
    go_ret
    exact ⟨ret_int (by rw [e1]), rfl⟩
  · have e1 := or_all ⟨c, hc⟩ hl
    rw [hl] at I
    replace I := Lib.hid I
    clear hl
    go_enter Try.func45, Try.ntmps45
    go_wp2_with (go_at_call 61; refine I.out.mono ?_; rintro e w' ⟨rfl, rfl⟩)
    go_ret
    exact ⟨rfl, rfl⟩
theorem other_any (c : Nat) (w : World) (hc : c < 256) : Calls Try.prog 47 #[.int .u8 (c : Int)] w fun e w' => e = .returned (.int .u8 (othN c : Int)) ∧ w = w' := by
  have I := isLetter_any c w hc
  rcases hl : letB c with _ | _
  · have e1 := oth_no hl
    rw [hl] at I
    replace I := Lib.hid I
    clear hl
    go_enter Try.func47, Try.ntmps47
    go_wp2_with (go_at_call 61; refine I.out.mono ?_; rintro e w' ⟨rfl, rfl⟩)
    go_ret
    exact ⟨ret_int (by rw [e1]), rfl⟩
  · have e1 := xor_all ⟨c, hc⟩ hl
    rw [hl] at I
    replace I := Lib.hid I
    clear hl
    go_enter Try.func47, Try.ntmps47
    go_wp2_with (go_at_call 61; refine I.out.mono ?_; rintro e w' ⟨rfl, rfl⟩)
    go_ret
    exact ⟨rfl, rfl⟩
/-- Block B holds a function of letters. -/
def FnBox (W : World) (B : Nat) (f : FuncId) : Prop := W.heap[B]? = some (.cells #[.func (.func f) #[] #[]] 53 (0, 0))
theorem FnBox.below {W W' : World} {B : Nat} {f : FuncId} (h : FnBox W B f) (hb : Below W.heap.size W W') : FnBox W' B f := (hb.block B (Array.getElem?_eq_some_iff.1 h).1).trans h
theorem FnBox.lt {W : World} {B : Nat} {f : FuncId} (h : FnBox W B f) : B < W.heap.size := (Array.getElem?_eq_some_iff.1 h).1
theorem FnBox.cell {W : World} {B : Nat} {f : FuncId} (h : FnBox W B f) : W.cell? ⟨B, 0, none⟩ = some (.func (.func f) #[] #[]) := by simp [World.cell?, show W.heap[B]? = _ from h]
abbrev fnO (f : FuncId) : Obj := .cells #[.func (.func f) #[] #[]] 53
theorem FnBox.new (w : World) (f : FuncId) : FnBox (w.alloc (fnO f)) w.heap.size f := World.alloc_heap_new w _
theorem onBytes_any (f : FuncId) (w : World) : Calls Try.prog 44 #[.func (.func f) #[] #[]] w fun e w' => e = .returned (.func (.func 60) #[] #[.pointer (some ⟨w.heap.size, 0, none⟩)]) ∧ w' = w.alloc (fnO f) := by
  go_enter Try.func44, Try.ntmps44
  go_wp2
  go_ret
  exact ⟨rfl, rfl⟩
theorem onBytes1_any (f : FuncId) (c d B : Nat) (w : World) (hB : FnBox w B f) (hcf : ∀ a w', (callFunc f #[a]).run Try.prog w' = .ok (.enter f #[a]) w') (hf : Calls Try.prog f #[.int .u8 (c : Int)] w fun e w' => e = .returned (.int .u8 (d : Int)) ∧ w = w') :
    Calls Try.prog 60 #[.int .u8 (c : Int), .pointer (some ⟨B, 0, none⟩)] w fun e w' => e = .returned (.int .u8 (d : Int)) ∧ w = w' := by
  have hc := hB.cell
  have HF := Lib.hid hf
  clear hf hB
  go_enter Try.func60, Try.ntmps60
  go_wp2_with (refine HF.out.mono ?_; rintro e w' ⟨rfl, rfl⟩)
  go_ret
  exact ⟨rfl, rfl⟩
theorem sm1_any (c B : Nat) (w : World) (hc : c < 256) (hB : FnBox w B 45) : Calls Try.prog 60 #[.int .u8 (c : Int), .pointer (some ⟨B, 0, none⟩)] w fun e w' => e = .returned (.int .u8 (lowN c : Int)) ∧ w = w' :=
  onBytes1_any _ c _ B w hB (fun _ _ => by kernel_rfl) (small_any c w hc)
theorem ot1_any (c B : Nat) (w : World) (hc : c < 256) (hB : FnBox w B 47) : Calls Try.prog 60 #[.int .u8 (c : Int), .pointer (some ⟨B, 0, none⟩)] w fun e w' => e = .returned (.int .u8 (othN c : Int)) ∧ w = w' :=
  onBytes1_any _ c _ B w hB (fun _ _ => by kernel_rfl) (other_any c w hc)
def NumP (w : World) (v : Value) (e : Ending) (w' : World) : Prop := e = .returned v ∧ Below w.heap.size w w'
theorem lower_any (c : Nat) (w : World) (hc : c < 256) : Calls Try.prog 13 #[.int .u8 (c : Int)] w (NumP w (.int .u8 (lowN c : Int))) := by
  have O := Lib.hid (onBytes_any 45 w)
  have S := Lib.hid (sm1_any c w.heap.size (w.alloc (fnO 45)) hc (FnBox.new w _))
  go_enter Try.func13, Try.ntmps13
  go_wp2_with (first
    | (go_at_call 44; refine O.out.mono ?_; rintro e w' ⟨rfl, rfl⟩)
    | (go_at_call 60; refine S.out.mono ?_; rintro e w' ⟨rfl, rfl⟩))
  go_ret
  exact ⟨rfl, (Below.refl _ w).alloc (Nat.le_refl _) _⟩
theorem same_any (a b : Nat) (w : World) (ha : a < 256) (hb : b < 256) : Calls Try.prog 11 #[.int .u8 (a : Int), .int .u8 (b : Int)] w (NumP w (.bool (sameN a b))) := by
  have A := Lib.hid (fun w => lower_any a w ha)
  have B := Lib.hid (fun w => lower_any b w hb)
  have R := Lib.hid (show (((lowN a : Nat) : Int) == ((lowN b : Nat) : Int)) = sameN a b by unfold sameN; rw [Bool.eq_iff_iff]; simp; omega)
  go_enter Try.func11, Try.ntmps11
  go_wp2_with (first
    | (go_at_call 13; (with_reducible refine (A.out _).mono ?_); rintro e w2 ⟨rfl, hb2⟩)
    | (go_at_call 13; (with_reducible refine (B.out _).mono ?_); rintro e w3 ⟨rfl, hb3⟩))
  go_ret
  exact ⟨ret_bool R.out, hb2.trans (hb3.mono hb2.size)⟩
end Go.Proofs.Ytnpfdnpklopnkaa
