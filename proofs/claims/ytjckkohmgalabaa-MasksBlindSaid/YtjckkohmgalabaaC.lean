/- New, valid, Steps, left, Has, Room. -/
import Derived.Test.YtjckkohmgalabaaB
import Derived.Deep.QuietTactic
import Derived.IntWalk
import Derived.BigQuiet
import Derived.LaidEqlPtr
namespace Go.Proofs.Ytjckkohmgalabaa
open Go.RowKit
def Ar (w : World) (F : Nat → Prop) (p : Nat) (cs : List Nat) (rs : List Rg) (tr : List (Nat × Nat)) : Prop := ∃ cb pv rv pg, ArX w F p cb pv rv pg cs rs tr
theorem Ar.below {w w' : World} {F : Nat → Prop} {p : Nat} {cs : List Nat} {rs : List Rg} {tr : List (Nat × Nat)} (h : Ar w F p cs rs tr) (hb : Below w.heap.size w w') : Ar w' F p cs rs tr := by
  obtain ⟨a, b, c, d, h⟩ := h; exact ⟨a, b, c, d, h.below hb⟩
theorem Ar.kept {w w' : World} {F G : Nat → Prop} {p : Nat} {cs : List Nat} {rs : List Rg} {tr : List (Nat × Nat)} (h : Ar w F p cs rs tr) (hb : Kept G w w') (e : ∀ i, F i → ¬ G i) : Ar w' F p cs rs tr := by
  obtain ⟨a, b, c, d, h⟩ := h; exact ⟨a, b, c, d, h.kept hb e⟩
theorem u64_info : (Try.prog.info? 22).map (fun i => (i.zero, i.size, i.bytes)) = some (some (.int .u64 0), 1, 8) := by kernel_rfl
theorem getD_rep (n i : Nat) : (List.replicate n 0).getD i 0 = 0 := by
  rw [List.getD_eq_getElem?_getD]
  by_cases h : i < n
  · rw [List.getElem?_replicate, if_pos h]; rfl
  · rw [List.getElem?_replicate, if_neg h]; rfl
/-- What New leaves. -/
theorem new_blocks (w : World) (n : Nat) (h1 : 1 ≤ n) (h2 : n ≤ 65536) :
    ArX ((w.alloc (.cells (madeCells #[.int .u64 0] n) 22)).alloc (.cells #[.slice none 0 0, .int .i64 0, .pointer (some ⟨w.heap.size + 1, 0, none⟩), .slice (some ⟨w.heap.size, 0, none⟩) n n, .slice none 0 0] 84))
      (fun k => k = w.heap.size ∨ k = w.heap.size + 1) (w.heap.size + 1) w.heap.size (.slice none 0 0) (.slice none 0 0) [] (List.replicate n 0) [] [] where
  lt k hk := by simp; omega
  blk := by
    have hs : (w.alloc (.cells (madeCells #[.int .u64 0] n) 22)).heap.size = w.heap.size + 1 := by simp
    rw [List.length_replicate]
    have := heap_alloc_new (w.alloc (.cells (madeCells #[.int .u64 0] n) 22)) (.cells #[.slice none 0 0, .int .i64 0, .pointer (some ⟨w.heap.size + 1, 0, none⟩), .slice (some ⟨w.heap.size, 0, none⟩) n n, .slice none 0 0] 84)
    rw [hs] at this
    exact this
  fp := .inr rfl
  cells := by
    rw [List.length_replicate]
    exact ((World.rowIs_made w (.int .u64 0) n 22).alloc _).congr fun i _ => by rw [getD_rep]; rfl
  fc := .inl rfl
  pages := World.ownsRow_nil _ _ _ _
  fpv k hk := by cases hk
  page j b hb := by simp at hb
  nodup := List.nodup_nil
  room := by simp
  good e he := by cases he
  long := by simp
  ncs := by rw [List.length_replicate]; exact ⟨h1, h2⟩
  wcs x hx := by rw [(List.mem_replicate.1 hx).2]; decide
  regs := World.ownsRow_nil _ _ _ _
  frv k hk := by cases hk
  nrs := by simp
  wrs r hr := by cases hr
def NewPost (w : World) (n : Nat) (e : Ending) (w' : World) : Prop :=
  ∃ p F, e = .returned (.tuple #[ptrV p, .int .i64 0]) ∧ Ar w' F p (List.replicate n 0) [] [] ∧ Below w.heap.size w w' ∧ ∀ k, F k → w.heap.size ≤ k
theorem new_any (n : Nat) (w : World) (h1 : 1 ≤ n) (h2 : n ≤ 65536) : Calls Try.prog 38 #[.int .i64 (n : Int)] w (NewPost w n) := by
  have hmk := run_make_row' (P := Try.prog) 28 22 (.int .u64 0) 8 Try.underlying28 u64_info rfl .i64 .i64 n (by omega) (by omega)
  have t1 : decide ((n : Int) < 1) = false := decide_eq_false (by omega)
  have t2 : decide ((65536 : Int) < (n : Int)) = false := decide_eq_false (by omega)
  have HB := Lib.hid (new_blocks w n h1 h2)
  go_enter Try.func38, Try.ntmps38
  go_wp2
  go_ret2
  refine ⟨w.heap.size + 1, _, rfl, ⟨_, _, _, _, HB.out⟩, ((Below.refl _ w).alloc (Nat.le_refl _) _).alloc (by simp) _, fun k hk => by omega⟩
theorem new_bad (n : Int) (w : World) (h : n < 1 ∨ 65536 < n) : Calls Try.prog 38 #[.int .i64 n] w fun e w' => e = .returned (.tuple #[.pointer none, .int .i64 7]) ∧ w = w' := by
  by_cases h1 : n < 1
  · have t1 : decide (n < 1) = true := decide_eq_true h1
    go_enter Try.func38, Try.ntmps38
    go_wp2
    go_ret2
    exact ⟨rfl, rfl⟩
  · have t1 : decide (n < 1) = false := decide_eq_false h1
    have t2 : decide ((65536 : Int) < n) = true := decide_eq_true (by omega)
    go_enter Try.func38, Try.ntmps38
    go_wp2
    go_ret2
    exact ⟨rfl, rfl⟩
section
variable {w : World} {F : Nat → Prop} {p cb : Nat} {pv rv : Value} {pg cs : List Nat} {rs : List Rg} {tr : List (Nat × Nat)}
theorem ar_info : (Try.prog.info? 84).isSome = true := by kernel_rfl
theorem valid_any (h : ArX w F p cb pv rv pg cs rs tr) : Calls Try.prog 57 #[.pointer (some ⟨p, 0, none⟩)] w fun e w' => e = .returned (.bool true) ∧ w = w' := by
  have c2 := h.c2
  have hq : ∀ W : World, (binOp .eql 31 (.pointer (some ⟨p, 0, none⟩)) (.pointer (some ⟨p, 0, none⟩))).run Try.prog W = .ok (.bool true) W := fun W => by
    obtain ⟨i, hi⟩ := Option.isSome_iff_exists.1 ar_info
    exact run_eql_ptr_same W _ Try.underlying31 hi
  go_enter Try.func57, Try.ntmps57
  go_wp2
  go_ret
  exact ⟨rfl, rfl⟩
theorem left_any (h : ArX w F p cb pv rv pg cs rs tr) : Calls Try.prog 73 #[.pointer (some ⟨p, 0, none⟩)] w fun e w' => e = .returned (.int .i64 (8388608 - (tr.length : Int))) ∧ w = w' := by
  have c1 := h.c1
  have hl := h.long
  go_enter Try.func73, Try.ntmps73
  go_wp2
  go_ret
  exact ⟨rfl, rfl⟩
theorem steps_any (h : ArX w F p cb pv rv pg cs rs tr) : Calls Try.prog 32 #[.pointer (some ⟨p, 0, none⟩)] w fun e w' => e = .returned (.int .i64 (tr.length : Int)) ∧ w = w' := by
  have c1 := h.c1
  have HV := Lib.hid (valid_any h)
  go_enter Try.func32, Try.ntmps32
  go_wp2_with (go_at_call 57; refine HV.out.mono ?_; rintro e w' ⟨rfl, rfl⟩)
  go_ret
  exact ⟨rfl, rfl⟩
/-- What Has and Room return. -/
def hasE (n : Nat) (from_ k : Int) : Int := if k < 0 ∨ from_ < 0 ∨ (n : Int) < from_ ∨ (n : Int) - from_ < k then 7 else 0
def roomE (m : Nat) (k : Int) : Int := if k < 0 then 7 else if 8388608 - (m : Int) < k then 3 else 0
theorem has_any (h : ArX w F p cb pv rv pg cs rs tr) (a b : Int) (ha : -9223372036854775808 ≤ a ∧ a ≤ 9223372036854775807) : Calls Try.prog 69 #[.pointer (some ⟨p, 0, none⟩), .int .i64 a, .int .i64 b] w fun e w' => e = .returned (.int .i64 (hasE cs.length a b)) ∧ w = w' := by
  have c3 := h.c3
  have hn := h.ncs
  have HV := Lib.hid (valid_any h)
  generalize cs.length = n at *
  by_cases h1 : b < 0
  · have t1 : decide (b < 0) = true := decide_eq_true h1
    have H := Lib.hid (show hasE n a b = 7 from if_pos (.inl h1))
    clear h1
    go_enter Try.func69, Try.ntmps69
    go_wp2_with (go_at_call 57; refine HV.out.mono ?_; rintro e w' ⟨rfl, rfl⟩)
    go_ret
    exact ⟨ret_int H.out.symm, rfl⟩
  have t1 : decide (b < 0) = false := decide_eq_false h1
  by_cases h2 : a < 0
  · have t2 : decide (a < 0) = true := decide_eq_true h2
    have H := Lib.hid (show hasE n a b = 7 from if_pos (.inr (.inl h2)))
    clear h1 h2
    go_enter Try.func69, Try.ntmps69
    go_wp2_with (go_at_call 57; refine HV.out.mono ?_; rintro e w' ⟨rfl, rfl⟩)
    go_ret
    exact ⟨ret_int H.out.symm, rfl⟩
  have t2 : decide (a < 0) = false := decide_eq_false h2
  by_cases h3 : (n : Int) < a
  · have t3 : decide ((n : Int) < a) = true := decide_eq_true h3
    have H := Lib.hid (show hasE n a b = 7 from if_pos (.inr (.inr (.inl h3))))
    clear h1 h2 h3
    go_enter Try.func69, Try.ntmps69
    go_wp2_with (go_at_call 57; refine HV.out.mono ?_; rintro e w' ⟨rfl, rfl⟩)
    go_ret
    exact ⟨ret_int H.out.symm, rfl⟩
  have t3 : decide ((n : Int) < a) = false := decide_eq_false h3
  by_cases h4 : (n : Int) - a < b
  · have t4 : decide ((n : Int) - a < b) = true := decide_eq_true h4
    have H := Lib.hid (show hasE n a b = 7 from if_pos (.inr (.inr (.inr h4))))
    have b1 : -9223372036854775808 ≤ (n : Int) - a := by omega
    have b2 : (n : Int) - a ≤ 9223372036854775807 := by omega
    clear h1 h2 h3 h4
    go_enter Try.func69, Try.ntmps69
    go_wp2_with (go_at_call 57; refine HV.out.mono ?_; rintro e w' ⟨rfl, rfl⟩)
    go_ret
    exact ⟨ret_int H.out.symm, rfl⟩
  have t4 : decide ((n : Int) - a < b) = false := decide_eq_false h4
  have H := Lib.hid (show hasE n a b = 0 from if_neg (by omega))
  have b1 : -9223372036854775808 ≤ (n : Int) - a := by omega
  have b2 : (n : Int) - a ≤ 9223372036854775807 := by omega
  clear h1 h2 h3 h4
  go_enter Try.func69, Try.ntmps69
  go_wp2_with (go_at_call 57; refine HV.out.mono ?_; rintro e w' ⟨rfl, rfl⟩)
  go_ret
  exact ⟨ret_int H.out.symm, rfl⟩
theorem room_any (h : ArX w F p cb pv rv pg cs rs tr) (k : Int) : Calls Try.prog 70 #[.pointer (some ⟨p, 0, none⟩), .int .i64 k] w fun e w' => e = .returned (.int .i64 (roomE tr.length k)) ∧ w = w' := by
  have HV := Lib.hid (valid_any h)
  have HL := Lib.hid (left_any h)
  have hl := h.long
  clear h
  generalize tr.length = n at *
  by_cases h1 : k < 0
  · have t1 : decide (k < 0) = true := decide_eq_true h1
    have H := Lib.hid (show roomE n k = 7 from if_pos h1)
    clear h1
    go_enter Try.func70, Try.ntmps70
    go_wp2_with (go_at_call 57; refine HV.out.mono ?_; rintro e w' ⟨rfl, rfl⟩)
    go_ret
    exact ⟨ret_int H.out.symm, rfl⟩
  have t1 : decide (k < 0) = false := decide_eq_false h1
  by_cases h2 : 8388608 - (n : Int) < k
  · have t2 : decide (8388608 - (n : Int) < k) = true := decide_eq_true h2
    have H := Lib.hid (show roomE n k = 3 by unfold roomE; rw [if_neg h1, if_pos h2])
    clear h1 h2
    go_enter Try.func70, Try.ntmps70
    go_wp2_with (first | (go_at_call 57; refine HV.out.mono ?_; rintro e w' ⟨rfl, rfl⟩) | (go_at_call 73; refine HL.out.mono ?_; rintro e w' ⟨rfl, rfl⟩))
    go_ret
    exact ⟨ret_int H.out.symm, rfl⟩
  have t2 : decide (8388608 - (n : Int) < k) = false := decide_eq_false h2
  have H := Lib.hid (show roomE n k = 0 by unfold roomE; rw [if_neg h1, if_neg h2])
  clear h1 h2
  go_enter Try.func70, Try.ntmps70
  go_wp2_with (first | (go_at_call 57; refine HV.out.mono ?_; rintro e w' ⟨rfl, rfl⟩) | (go_at_call 73; refine HL.out.mono ?_; rintro e w' ⟨rfl, rfl⟩))
  go_ret
  exact ⟨ret_int H.out.symm, rfl⟩
end
end Go.Proofs.Ytjckkohmgalabaa
