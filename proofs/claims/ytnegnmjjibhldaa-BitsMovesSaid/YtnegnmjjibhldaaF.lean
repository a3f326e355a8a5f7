/- Layer 2: rows that are made word by word; Not. -/
import Derived.Test.YtnegnmjjibhldaaE
import Derived.LoopTactic
namespace Go.Proofs.Ytnegnmjjibhldaa
open Go.RowKit
/-- The words F j where p says yes, 0 elsewhere. -/
def part (p : Nat → Bool) (n : Nat) (F : Nat → Nat) : List Nat := (List.range n).map fun j => if p j then F j else 0
theorem part_len (p : Nat → Bool) (n : Nat) (F : Nat → Nat) : (part p n F).length = n := by simp [part]
theorem part_none (n : Nat) (F : Nat → Nat) (p : Nat → Bool) (h : ∀ j, j < n → p j = false) : part p n F = List.replicate n 0 := by
  apply List.ext_getElem (by simp [part])
  intro j h1 h2
  have := h j (by simpa [part] using h1)
  simp [part, this]
theorem part_set (p q : Nat → Bool) (n : Nat) (F : Nat → Nat) (k : Nat) (h : ∀ j, j < n → q j = (p j || decide (j = k))) : (part p n F).set k (F k) = part q n F := by
  apply List.ext_getElem (by simp [part])
  intro j h1 h2
  have hj : j < n := by simpa [part] using h2
  rw [List.getElem_set]
  simp only [part, List.getElem_map, List.getElem_range, h j hj]
  by_cases e : k = j
  · subst e; simp
  · rw [if_neg e]; simp [show ¬ j = k from fun e' => e e'.symm]
theorem part_all (p : Nat → Bool) (n : Nat) (f : Nat → Bool) (h : ∀ j, j < n → p j = true) : part p n (fun j => ofB (fun k => f (64 * j + k)) 64) = mkRow n f := by
  unfold part mkRow
  apply List.map_congr_left
  intro j hj
  rw [h j (List.mem_range.1 hj)]; rfl
theorem made_own (w : World) (n : Nat) (hn : n ≤ 1000) : Own64 (w.alloc (.cells (madeCells #[.int .u64 0] n) 55)) w.heap.size n (List.replicate n 0) := by
  have := World.ownsRow_lit (base := 0) (e := 55) (size := 1) w (madeCells #[.int .u64 0] n) n (Nat.zero_le _) (by simp only [maxLen]; omega) (by rw [size_madeCells, Nat.mul_one])
  unfold Own64
  rw [List.length_replicate, List.map_replicate]
  rw [toList_madeCells_one] at this
  exact this
theorem run_mk {P : Program} (t e : TypeId) (i : TypeInfo) (z : Value) (ht : P.underlying t = some (.slice e)) (hi : P.info? e = some i) (hz : i.zero = some z) (hs : i.size = 1) (hb : i.bytes = 8)
    (n : Nat) (hn : n ≤ 1000) (w : World) : (Instr.makeSlice t (.int .i64 (n : Int)) (.int .i64 (n : Int))).run P w = .ok (.slice (some ⟨w.heap.size, 0, none⟩) n n) (w.alloc (.cells (madeCells z.cells n) e)) := by
  have hr := run_make (P := P) w t e i z ht hi hz .i64 .i64 n n (by omega) (by omega) (by rw [hb]; omega) (by omega)
  simp only [Int.toNat_natCast, hs, Nat.mul_one] at hr
  exact hr
theorem mk_any (n : Nat) (hn : n ≤ 1000) (w : World) : (Instr.makeSlice 22 (.int .i64 (n : Int)) (.int .i64 (n : Int))).run Try.prog w = .ok (rowV w.heap.size n n) (w.alloc (.cells (madeCells #[.int .u64 0] n) 55)) := by
  obtain ⟨i0, hi, hz0, hz1, hz2⟩ := info_parts u64_info
  exact run_mk _ _ _ _ Try.underlying22 hi hz0 hz1 hz2 n hn w
theorem ofB_eq {y : Nat} {f : Nat → Bool} (hy : y < 2 ^ 64) (h : ∀ k, k < 64 → y.testBit k = f k) : y = ofB f 64 :=
  word_ext hy (ofB_lt f 64) fun k hk => by rw [h k hk, ofB_bit f 64 k hk]
theorem rbit_word {xs : List Nat} {j x : Nat} (h : xs[j]? = some x) {k : Nat} (hk : k < 64) : rbit xs (64 * j + k) = x.testBit k := by
  rw [rbit_at _ _ _ hk, List.getD_eq_getElem?_getD, h]; rfl
theorem own_step {wr : World} {g n k y : Nat} {p q : Nat → Bool} {F : Nat → Nat} (hown : Own64 wr g n (part p n F)) (hy : y = F k) (hq : ∀ j, j < n → q j = (p j || decide (j = k))) :
    Own64 (wr.setCell ⟨g, k, none⟩ (.int .u64 (y : Int))) g n (part q n F) := by
  have := hown.set k (F k)
  rw [part_set p q n F k hq] at this
  rw [hy]; exact this
theorem own_done {wr : World} {g n : Nat} {p : Nat → Bool} {f : Nat → Bool} (hown : Own64 wr g n (part p n (fun j => ofB (fun k => f (64 * j + k)) 64))) (hp : ∀ j, j < n → p j = true) : URow wr (rowV g n n) (mkRow n f) := by
  rw [part_all p n f hp] at hown
  have := hown.row
  rw [mkRow_len] at this
  exact this
theorem upto_succ (n k : Nat) : ∀ j, j < n → decide (j < k + 1) = (decide (j < k) || decide (j = k)) := fun j _ => by
  rw [Bool.eq_iff_iff]; simp; omega
theorem u64_not {x : Nat} (hx : x < 2 ^ 64) : bits .xor .u64 (if IntKind.u64.signed = true then -1 else IntKind.u64.max) (x : Int) = ((ofB (fun k => !x.testBit k) 64 : Nat) : Int) := by
  have e : (if IntKind.u64.signed = true then (-1 : Int) else IntKind.u64.max) = ((18446744073709551615 : Nat) : Int) := by decide
  rw [e, u64_xor_nat _ _ (by omega) hx]
  congr 1
  refine ofB_eq (Nat.xor_lt_two_pow (by omega) hx) fun k hk => ?_
  rw [Nat.testBit_xor, show 18446744073709551615 = 2 ^ 64 - 1 by omega, Nat.testBit_two_pow_sub_one]
  simp [hk]
theorem toNat_bit (b : Bool) (k : Nat) : b.toNat.testBit k = (b && decide (k = 0)) := by
  cases b
  · simp
  · rw [Bool.eq_iff_iff]; simp [Nat.testBit_one_eq_true_iff_self_eq_zero]
theorem toNat_lt (b : Bool) : b.toNat < 2 ^ 64 := by cases b <;> decide
theorem shl_word {x : Nat} (cy : Bool) : bits .or .u64 (IntKind.u64.wrap ((x : Int) * 2)) ((cy.toNat : Nat) : Int) = ((ofB (fun i => if i = 0 then cy else x.testBit (i - 1)) 64 : Nat) : Int) := by
  have e : IntKind.u64.wrap ((x : Int) * 2) = ((x <<< 1 % 2 ^ 64 : Nat) : Int) := by
    rw [IntKind.wrap_u64, Nat.shiftLeft_eq]; omega
  have hl : x <<< 1 % 2 ^ 64 < 2 ^ 64 := Nat.mod_lt _ (by omega)
  rw [e, u64_or_nat _ _ hl (toNat_lt cy)]
  congr 1
  refine ofB_eq (Nat.or_lt_two_pow hl (toNat_lt cy)) fun k hk => ?_
  rw [Nat.testBit_or, Nat.testBit_mod_two_pow, Nat.testBit_shiftLeft, toNat_bit]
  by_cases h : k = 0
  · subst h; simp
  · simp [h, hk, show 1 ≤ k by omega]
theorem top_word {x : Nat} (hx : x < 2 ^ 64) : (x : Int) / 9223372036854775808 = (((x.testBit 63).toNat : Nat) : Int) := by
  have h : (x.testBit 63).toNat = x / 9223372036854775808 := by
    rw [Nat.testBit_eq_decide_div_mod_eq]
    have : x / 2 ^ 63 < 2 := by omega
    rcases (show x / 2 ^ 63 = 0 ∨ x / 2 ^ 63 = 1 by omega) with e | e <;> simp [e] <;> omega
  rw [h]; rfl
theorem shr_word {x : Nat} (hx : x < 2 ^ 64) (cy : Bool) : bits .or .u64 ((x : Int) / 2) (IntKind.u64.wrap (((cy.toNat : Nat) : Int) * 9223372036854775808)) = ((ofB (fun i => if i = 63 then cy else x.testBit (i + 1)) 64 : Nat) : Int) := by
  have e : IntKind.u64.wrap (((cy.toNat : Nat) : Int) * 9223372036854775808) = ((cy.toNat <<< 63 : Nat) : Int) := by
    rw [IntKind.wrap_u64, Nat.shiftLeft_eq]; cases cy <;> decide
  have hl : cy.toNat <<< 63 < 2 ^ 64 := by cases cy <;> decide
  have h2 : x / 2 < 2 ^ 64 := by omega
  rw [e, show (x : Int) / 2 = ((x / 2 : Nat) : Int) from rfl, u64_or_nat _ _ h2 hl]
  congr 1
  refine ofB_eq (Nat.or_lt_two_pow h2 hl) fun k hk => ?_
  rw [Nat.testBit_or, Nat.testBit_div_two, Nat.testBit_shiftLeft, toNat_bit]
  by_cases h : k = 63
  · subst h
    have : x.testBit 64 = false := Nat.testBit_lt_two_pow hx
    simp [this]
  · simp [h]; omega
theorem low_word (x : Nat) (hx : x < 2 ^ 64) : bits .and .u64 (x : Int) 1 = (((x.testBit 0).toNat : Nat) : Int) := by
  rw [show (1 : Int) = ((1 : Nat) : Int) from rfl, u64_and_nat _ _ hx (by omega), Nat.and_one_is_mod]
  congr 1
  rw [Nat.testBit_zero]
  rcases Nat.mod_two_eq_zero_or_one x with e | e <;> simp [e]
/-- A row with these bits, or none and an error. -/
def notR (xs : List Nat) : List Nat := if chk xs.length = 0 then mkRow xs.length (fun i => !rbit xs i) else []
set_option maxRecDepth 100000 in
theorem not_any (v : Value) (xs : List Nat) (w : World) (hv : URow w v xs) (hw : Wf xs) : Calls Try.prog 34 #[v] w (RowPost w (notR xs) (chk xs.length)) := by
  have C := Lib.hid (check_any v xs w hv)
  by_cases h0 : chk xs.length = 0
  · have h01 := chk_zero h0
    have hne : (chk xs.length != 0) = false := by simp [h0]
    have R := Lib.hid (show notR xs = mkRow xs.length (fun i => !rbit xs i) by unfold notR; rw [if_pos h0])
    have E := Lib.hid h0
    obtain ⟨b, o, c, rfl, hc, hx⟩ := hv.later h01.1
    have MK := mk_any xs.length (by omega)
    generalize hxn : xs.length = n at *
    have HN := Lib.hid hxn
    have HC := Lib.hid hx
    clear hx hxn h0
    go_enter Try.func34, Try.ntmps34
    go_wp2_with (go_at_call 14; refine C.out.mono ?_; rintro e w' ⟨rfl, rfl⟩)
    go_loopw [6, 17] (fun _ i wr => ∃ k : Nat, k ≤ n ∧ i = .int .i64 k ∧ Own64 wr w.heap.size n (part (fun j => decide (j < k)) n (fun j => ofB (fun k => !rbit xs (64 * j + k)) 64)) ∧ Below w.heap.size w wr) (fun _ i _ => n - (intOf i).toNat)
    case atStart =>
      refine ⟨0, Nat.zero_le _, rfl, ?_, (Below.refl _ w).alloc (Nat.le_refl _) _⟩
      rw [part_none _ _ _ (fun j _ => by simp)]
      exact made_own w n (by omega)
    case round =>
      obtain ⟨k, hk, rfl, hown, hb⟩ := hrel
      by_cases hlt : k < n
      · obtain ⟨x, hx⟩ : ∃ x, xs[k]? = some x := ⟨_, List.getElem?_eq_getElem (by rw [HN.out]; exact hlt)⟩
        have hcell := HC.out wr k x hb hx
        have hc1 := hown.cell (j := k) (by rw [part_len]; exact hlt)
        have hf1 := hown.frozen k
        have e1 := u64_not (hw x (List.mem_of_getElem? hx))
        have HY := Lib.hid (show ofB (fun k => !x.testBit k) 64 = ofB (fun i => !rbit xs (64 * k + i)) 64 from ofB_eq (ofB_lt _ _) fun i hi => by rw [ofB_bit _ _ _ hi, rbit_word hx hi])
        have HO := Lib.hid hown
        clear hx hown
        go_wp2
        go_roundw
        case rel => exact ⟨k + 1, by omega, by go_num, own_step HO.out HY.out (upto_succ n k), hb.setCell (p := ⟨w.heap.size, k, none⟩) (Nat.le_refl _) _⟩
        case measure => simp [intOf]; omega
      · obtain rfl : k = n := by omega
        have HO := Lib.hid hown
        clear hown
        go_wp2
        go_ret2
        exact ⟨_, by rw [E.out]; rfl, by rw [R.out]; exact own_done HO.out (fun j hj => by simpa using hj), hb⟩
  · have hne : (chk xs.length != 0) = true := by simp [h0]
    have R := Lib.hid (show notR xs = [] by unfold notR; rw [if_neg h0])
    clear h0
    go_enter Try.func34, Try.ntmps34
    go_wp2_with (go_at_call 14; refine C.out.mono ?_; rintro e w' ⟨rfl, rfl⟩)
    go_ret2
    exact ⟨.slice none 0 0, rfl, by rw [R.out]; exact URow.none _, Below.refl _ _⟩
end Go.Proofs.Ytnegnmjjibhldaa
