/- Lines of runs; what is written into a builder. -/
import Derived.Test.YtihhgnjkmhdpmaaGreatDoorA
import Derived.Test.YtihhgnjkmhdpmaaGreatDoorPb
import Derived.Test.YtihhgnjkmhdpmaaGreatDoorShelf
import Derived.Lib.LaidTab
import Derived.Lib.AppendStr
import Derived.OwnWalkIn
namespace Go.Proofs.YtihhgnjkmhdpmaaGreatDoor
open Go.RowKit
section
variable {P : Program} {a : Act} {w : World} {Q : Exit → Act → World → Prop}
/-- Whatever order is drawn: one walk in the text's order, over all worlds that are as w below n. -/
theorem wp_region_below {id : Nat} {l : List Oper} {n : Nat} (_ : n ≤ w.heap.size) (hm : P.follows .mixedOrders = true) (hB : Region.lexB .any l.toArray = true)
    (h : wpQuiet P l.toArray (fun w' => Below n w w') (fun a' => ∀ w', Below n w w' → Q .normal a' w') l a) : (Code.region id l.toArray true).wp P Q a w :=
  wp_region_quiet (C := fun w' => Below n w w') hm hB ⟨rfl, rfl, rfl, Nat.le_refl _, fun _ _ => rfl⟩ (by simpa using h)
theorem quiet_num {o : Oper} {K : Act → Prop} {n : Nat} (x : Operand) (ho : o.op = .load 3 x) (p : Addr) (hx : a.eval x = .pointer (some p)) (c : Int) (hc : w.cell? p = some (.int .i64 c)) (hB : p.block < n)
    (h : K (a.put o.dst (.int .i64 c))) : o.quiet Tryz.prog a (fun w' => Below n w w') K :=
  ⟨_, fun w' hw => by
    have hc' := (hw.cell hB).trans hc
    unfold Oper.quietAt execOp
    rw [ho]
    simp only [hx]
    go_simp, h⟩
theorem Calls.quiet_below {f : FuncId} {args : Array Value} {n : Nat} {w' : World} {v : Value} {R : Ending → World → Prop} (h : Calls P f args w' R) (hw : Below n w w') (hn : n ≤ w.heap.size)
    (hR : ∀ e w'', R e w'' → e = .returned v ∧ Below w'.heap.size w' w'') : Calls P f args w' fun e w'' => e = .returned v ∧ Below n w w'' :=
  h.mono fun e w'' hh => by
    obtain ⟨he, hb⟩ := hR e w'' hh
    exact ⟨he, hw.trans (hb.mono (Nat.le_trans hn hw.size))⟩
end
/-- The table of powers of ten. -/
def P10 (w : World) : Prop := Lib.TabIs Tryz.prog w "internal/strconv.uint64pow10" IntKind.u64 Lib.pow10Tab ∧ 1 < w.heap.size
theorem gP10 : Tryz.prog.globalNamed "internal/strconv.uint64pow10" = some 1 := by kernel_rfl
theorem P10.below {w w' : World} (h : P10 w) (hb : Below w.heap.size w w') : P10 w' := ⟨var?_below hb gP10 h.2 h.1, Nat.lt_of_lt_of_le h.2 hb.size⟩
theorem below_grow (w : World) (k : Nat) (os : Array Obj) : Below w.heap.size w (Go.Sort.grow (w.drewN k) os) :=
  ⟨rfl, rfl, rfl, by simp [Go.Sort.grow, World.drewN], fun i hi => by simp [Go.Sort.grow, World.drewN, Array.getElem?_append_left hi]⟩
theorem digits_any (n : Int) (h0 : -9223372036854775808 ≤ n) (h1 : n ≤ 9223372036854775807) (w : World) (hw : P10 w) :
    Calls Tryz.prog 42 #[.int .i64 n] w fun e w' => e = .returned (.string ⟨(Lib.itoa n).toArray⟩) ∧ Below w.heap.size w w' := by
  have hp := Lib.hid (Tryz.strconv_FormatInt_10 n h0 h1 w hw.1)
  clear hw h0 h1
  go_enter Tryz.func42, Tryz.ntmps42
  go_wp2_with (go_at_call 57; refine hp.out.mono ?_; rintro e w' ⟨rfl, k, os, rfl⟩)
  go_ret
  exact ⟨rfl, below_grow _ _ _⟩
def runV (r : Run) : Value := .agg #[.int .i64 r.k, .int .i64 r.a, .int .i64 (r.n : Int)]
theorem line_eq (W A N : List UInt8) : ((((((⟨W.toArray⟩ : ByteArray) ++ ⟨#[32]⟩) ++ ⟨A.toArray⟩) ++ ⟨#[32]⟩) ++ ⟨N.toArray⟩) ++ ⟨#[10]⟩) = ⟨((W ++ 32 :: (A ++ 32 :: N)) ++ [10]).toArray⟩ := by
  apply ByteArray.ext
  apply Array.ext'
  simp
theorem ret_str {a b : ByteArray} (h : a = b) : Ending.returned (.string a) = .returned (.string b) := by rw [h]
def StPost (w : World) (l : List UInt8) (e : Ending) (w' : World) : Prop := e = .returned (.string ⟨l.toArray⟩) ∧ Below w.heap.size w w'
set_option maxHeartbeats 800000 in
set_option maxRecDepth 100000 in
theorem line_any (r : Run) (w : World) (hw : P10 w) (ha : -9223372036854775808 ≤ r.a ∧ r.a ≤ 9223372036854775807) (hn : r.n ≤ 1000000000) : Calls Tryz.prog 22 #[runV r] w (StPost w (lineL r)) := by
  obtain ⟨k, a, n⟩ := r
  simp only at ha hn
  unfold runV
  simp only
  have hp1 := hw.below ((Below.refl _ w).alloc (Nat.le_refl _) (.cells #[.int .i64 k, .int .i64 a, .int .i64 (n : Int)] 56))
  have D1 := Lib.hid (fun W (h : Below (w.alloc (.cells #[.int .i64 k, .int .i64 a, .int .i64 (n : Int)] 56)).heap.size (w.alloc (.cells #[.int .i64 k, .int .i64 a, .int .i64 (n : Int)] 56)) W) => digits_any a ha.1 ha.2 W (hp1.below h))
  have D2 := Lib.hid (fun W (h : Below (w.alloc (.cells #[.int .i64 k, .int .i64 a, .int .i64 (n : Int)] 56)).heap.size (w.alloc (.cells #[.int .i64 k, .int .i64 a, .int .i64 (n : Int)] 56)) W) => digits_any (n : Int) (by omega) (by omega) W (hp1.below h))
  have hbl := (Below.refl _ w).alloc (Nat.le_refl _) (.cells #[.int .i64 k, .int .i64 a, .int .i64 (n : Int)] 56)
  have c1 : (w.alloc (.cells #[.int .i64 k, .int .i64 a, .int .i64 (n : Int)] 56)).cell? ⟨w.heap.size, 1, none⟩ = some (.int .i64 a) := by simp [World.cell?_alloc_new]
  have c2 : (w.alloc (.cells #[.int .i64 k, .int .i64 a, .int .i64 (n : Int)] 56)).cell? ⟨w.heap.size, 2, none⟩ = some (.int .i64 (n : Int)) := by simp [World.cell?_alloc_new]
  have hl1 : (Lib.itoa a).length ≤ 21 := Lib.itoa_length_le _ ha.1 ha.2
  have hl2 : (Lib.itoa (n : Int)).length ≤ 21 := Lib.itoa_length_le _ (by omega) (by omega)
  by_cases h2 : k = 2
  · have HL := Lib.hid (show lineL ⟨k, a, n⟩ = ((wordL k) ++ 32 :: (Lib.itoa a ++ 32 :: Lib.itoa n)) ++ [10] from rfl)
    have t1 : (k == 2) = true := by simp [h2]
    have HW := Lib.hid (show wordL k = [115, 116, 111, 114, 101] by unfold wordL; rw [if_pos h2])
    rw [HW.out] at HL
    clear h2 hw hp1 ha hn
    go_enter Tryz.func22, Tryz.ntmps22
    go_wp2
    obtain ⟨w1, hw1⟩ : ∃ w1, w.alloc (.cells #[.int .i64 k, .int .i64 a, .int .i64 (n : Int)] 56) = w1 := ⟨_, rfl⟩
    rw [hw1] at c1 c2 D1 D2 hbl ⊢
    have hsz := hbl.size
    have hs1 : w.heap.size < w1.heap.size := by rw [← hw1]; simp
    clear hw1
    refine wp_region_below (w := w1) (Nat.le_refl _) (by kernel_rfl) (by kernel_rfl) ?_
    repeat (first
      | go_big_quiet_skip
      | (go_big_quiet_want; (first
          | ((first | refine quiet_num _ rfl ⟨w.heap.size, 1, none⟩ rfl _ c1 hs1 ?_ | refine quiet_num _ rfl ⟨w.heap.size, 2, none⟩ rfl _ c2 hs1 ?_); simp only [Act.put, List.setIfInBounds_toArray, List.set_cons_succ, List.set_cons_zero]; go_big_quiet_on)
          | (go_big_quiet_op; (first
              | go_big_quiet_on
              | (refine ⟨_, fun _ _ => rfl, ?_⟩; go_big_quiet_on)
              | (apply Exists.intro; refine ⟨fun w9 hw9 => ?_, ?_⟩; (focus (first | (go_at_call 42; exact Calls.quiet_below (D1.out _ hw9) hw9 (Nat.le_refl _) (fun _ _ h => h)) | (go_at_call 42; exact Calls.quiet_below (D2.out _ hw9) hw9 (Nat.le_refl _) (fun _ _ h => h)))); go_big_quiet_on))))))
    refine wpQuiet_nil ?_
    intro w5 hb5
    go_wp2
    go_ret
    exact ⟨by rw [HL.out, ← line_eq]; rfl, hbl.trans (hb5.mono hsz)⟩
  · have HL := Lib.hid (show lineL ⟨k, a, n⟩ = ((wordL k) ++ 32 :: (Lib.itoa a ++ 32 :: Lib.itoa n)) ++ [10] from rfl)
    have t1 : (k == 2) = false := by simpa using h2
    have HW := Lib.hid (show wordL k = [108, 111, 97, 100] by unfold wordL; rw [if_neg h2])
    rw [HW.out] at HL
    clear h2 hw hp1 ha hn
    go_enter Tryz.func22, Tryz.ntmps22
    go_wp2
    obtain ⟨w1, hw1⟩ : ∃ w1, w.alloc (.cells #[.int .i64 k, .int .i64 a, .int .i64 (n : Int)] 56) = w1 := ⟨_, rfl⟩
    rw [hw1] at c1 c2 D1 D2 hbl ⊢
    have hsz := hbl.size
    have hs1 : w.heap.size < w1.heap.size := by rw [← hw1]; simp
    clear hw1
    refine wp_region_below (w := w1) (Nat.le_refl _) (by kernel_rfl) (by kernel_rfl) ?_
    repeat (first
      | go_big_quiet_skip
      | (go_big_quiet_want; (first
          | ((first | refine quiet_num _ rfl ⟨w.heap.size, 1, none⟩ rfl _ c1 hs1 ?_ | refine quiet_num _ rfl ⟨w.heap.size, 2, none⟩ rfl _ c2 hs1 ?_); simp only [Act.put, List.setIfInBounds_toArray, List.set_cons_succ, List.set_cons_zero]; go_big_quiet_on)
          | (go_big_quiet_op; (first
              | go_big_quiet_on
              | (refine ⟨_, fun _ _ => rfl, ?_⟩; go_big_quiet_on)
              | (apply Exists.intro; refine ⟨fun w9 hw9 => ?_, ?_⟩; (focus (first | (go_at_call 42; exact Calls.quiet_below (D1.out _ hw9) hw9 (Nat.le_refl _) (fun _ _ h => h)) | (go_at_call 42; exact Calls.quiet_below (D2.out _ hw9) hw9 (Nat.le_refl _) (fun _ _ h => h)))); go_big_quiet_on))))))
    refine wpQuiet_nil ?_
    intro w5 hb5
    go_wp2
    go_ret
    exact ⟨by rw [HL.out, ← line_eq]; rfl, hbl.trans (hb5.mono hsz)⟩
theorem info_u8 : (Tryz.prog.info? 5).map (fun i => (i.zero, i.size, i.bytes)) = some (some (.int .u8 0), 1, 1) := by kernel_rfl
/-- A builder at block b, its buffer from block B on. -/
abbrev BuP (B b : Nat) (l : List UInt8) (w : World) : Prop := Lib.IsBuilder 51 5 B b (Lib.byteCells l) w
theorem own_ge {w : World} {base : Nat} {e : TypeId} {size : Nat} {v : Value} {n : Nat} {xs : List Value} (h : w.ownsRow base e size v n xs) {j : Nat} (hj : v.ownBlock = some j) : base ≤ j := by
  rcases h.2 with ⟨rfl, _⟩ | ⟨g, cap, cur, rfl, hb, _⟩
  · cases hj
  · cases hj; exact hb
theorem szB : (Tryz.prog.info? 51).map (·.size) = some 2 := by kernel_rfl
theorem liesB : liesAt Tryz.prog Tryz.prog.depth 51 (2 / Tryz.prog.cellsOf 51) 0 51 1 = true := by kernel_rfl
set_option maxHeartbeats 800000 in
set_option maxRecDepth 100000 in
theorem copyCheck_any (B b : Nat) (bs : List Value) (w : World) (h : Lib.IsBuilder 51 5 B b bs w) :
    Calls Tryz.prog 41 #[.pointer (some ⟨b, 0, none⟩)] w fun e w' => e = .returned (.tuple #[]) ∧ Lib.BuilderAt 51 5 B b (.pointer (some ⟨b, 0, none⟩)) bs w' ∧ Below B w w' ∧ ∀ i, i ≠ b → w'.heap[i]? = w.heap[i]? := by
  obtain ⟨j, hj, hjs⟩ := Option.map_eq_some_iff.1 szB
  rcases h with h | h
  · have c0 := h.cell0
    have f0 := h.frozen0
    have sh := h.shape
    have HU := Lib.hid h
    clear h
    go_enter Tryz.func41, Tryz.ntmps41
    go_wp2
    rw [Lib.run_to_unsafe w ⟨b, 0, none⟩ Tryz.underlying48 Tryz.underlying99 hj (by rw [hjs]; decide) sh (Nat.zero_lt_succ 1)]
    simp only [Result.andThen]
    rw [Oper.upon_value]
    go_wp2
    rw [run_callFunc_extern Tryz.func56 (by kernel_rfl) (by kernel_rfl) (by kernel_rfl) (e := Extern.AbiNoEscape.same) (by kernel_rfl)]
    rw [Lib.run_noEscape]
    simp only [Result.andThen]
    rw [Oper.upon_value]
    go_wp2
    rw [Lib.run_from_unsafe w ⟨b, 0, none⟩ Tryz.underlying99 Tryz.underlying48 hj sh liesB]
    simp only [Result.andThen]
    rw [Oper.upon_value]
    go_wp2
    go_end0
    exact ⟨rfl, HU.out.used _, (Below.refl B w).setCell (p := ⟨b, 0, none⟩) HU.out.1 _, fun i hi => Below.heap_setCell _ _ _ _ hi⟩
  · have c0 := h.cell0
    have HU := Lib.hid h
    clear h
    go_enter Tryz.func41, Tryz.ntmps41
    go_wp2
    rw [Lib.run_neq_ptr_same w _ Tryz.underlying48 hj]
    go_wp2
    go_end0
    exact ⟨rfl, HU.out, Below.refl B _, fun _ _ => rfl⟩
/-- A builder that has been written into, or a fresh one: what it holds. -/
def WsPost (B b : Nat) (l : List UInt8) (w : World) (e : Ending) (w' : World) : Prop := (∃ n : Int, e = .returned (.tuple #[.int .i64 n, .nilIface])) ∧ BuP B b l w' ∧ Below B w w' ∧ ∀ i, i < w.heap.size → i ≠ b → (∀ cs fr, w.heap[i]? ≠ some (.cells cs 5 fr)) → w'.heap[i]? = w.heap[i]?
theorem str_cells (s : List UInt8) : Lib.strCells ⟨s.toArray⟩ = Lib.byteCells s := by
  unfold Lib.strCells Lib.byteCells
  simp
theorem byteCells_app (a b : List UInt8) : Lib.byteCells (a ++ b) = Lib.byteCells a ++ Lib.byteCells b := by
  unfold Lib.byteCells; simp
theorem byteCells_len (a : List UInt8) : (Lib.byteCells a).length = a.length := by
  unfold Lib.byteCells; simp
set_option maxHeartbeats 800000 in
set_option maxRecDepth 100000 in
theorem write_any (B b : Nat) (l s : List UInt8) (w : World) (h : BuP B b l w) (hB : B ≤ w.heap.size) (hl : l.length + s.length ≤ 1000000000) :
    Calls Tryz.prog 21 #[.pointer (some ⟨b, 0, none⟩), .string ⟨s.toArray⟩] w (WsPost B b (l ++ s) w) := by
  obtain ⟨i0, hi, hz0, hz1, hz2⟩ := info_parts info_u8
  have CC := Lib.hid (copyCheck_any B b _ w h)
  have hss : (⟨s.toArray⟩ : ByteArray).size = s.length := by simp [ByteArray.size]
  have SC := Lib.hid (str_cells s)
  have BL := byteCells_len l
  obtain ⟨S, hS⟩ : ∃ S : ByteArray, (⟨s.toArray⟩ : ByteArray) = S := ⟨_, rfl⟩
  rw [hS] at hss SC ⊢
  clear h hS
  go_enter Tryz.func21, Tryz.ntmps21
  go_wp2_with (go_at_call 41; refine CC.out.mono ?_)
  rintro e w1 ⟨rfl, ⟨hBb, v, hbk, hown, hne⟩, hb1, hoth⟩
  have c1 : w1.cell? ⟨b, 1, none⟩ = some v := by rw [Lib.cell_of_heap hbk]; rfl
  go_wp2_with (at_builtin; refine Lib.wpList_append_own_string _ rfl _ _ 49 9 rfl B 5 i0 Tryz.underlying49 Tryz.underlying9 hi hz0 hz1 hz2 _ _ _ rfl hown S rfl ?c3 ?c4 ?c5 ?_)
  case c3 => unfold maxLen; omega
  case c4 => omega
  case c5 => have := hb1.size; omega
  intro v' w2 hown' hgrow _
  have hlt : b < w1.heap.size := by
    rcases Nat.lt_or_ge b w1.heap.size with h' | h'
    · exact h'
    · simp [Array.getElem?_eq_none h'] at hbk
  have hb2 : w2.heap[b]? = some (.cells #[.pointer (some ⟨b, 0, none⟩), v] 51 (0, 0)) := by
    rw [hgrow.block b hlt (fun e => hne e.symm)]; exact hbk
  have d1 : w2.cell? ⟨b, 1, none⟩ = some v := by rw [Lib.cell_of_heap hb2]; rfl
  have f1 : w2.frozen? ⟨b, 1, none⟩ = false := Lib.frozen_of_heap hb2 1
  obtain ⟨ao, n', cap, rfl⟩ : ∃ ao n' cap, v' = .slice ao n' cap := by
    rcases hown'.2 with ⟨hv, _⟩ | ⟨g, cap, cur, hv, _⟩
    · exact ⟨_, _, _, hv⟩
    · exact ⟨_, _, _, hv⟩
  have HO := Lib.hid hown'
  have HB2 := Lib.hid hb2
  have HG := Lib.hid (hb1.grown hgrow (Nat.le_trans hB hb1.size) (fun k e => own_ge hown e))
  have HOT := Lib.hid (show ∀ i, i < w.heap.size → i ≠ b → (∀ cs fr, w.heap[i]? ≠ some (.cells cs 5 fr)) → w2.heap[i]? = w.heap[i]? from fun i hi hne' ht => by
    rw [hgrow.block i (Nat.lt_of_lt_of_le hi hb1.size) (fun e => ?_), hoth i hne']
    rcases hown.2 with ⟨rfl, _⟩ | ⟨g, cap, cur, rfl, _, hg, _⟩
    · cases e
    · cases e
      rw [hoth _ hne'] at hg
      exact ht _ _ hg)
  clear hown' hb2 hgrow hown
  go_wp2
  go_ret2
  refine ⟨⟨_, rfl⟩, .inr ?_, HG.out.setCell (p := ⟨b, 1, none⟩) hBb _, fun i hi hne' ht => (Below.heap_setCell _ _ _ _ hne').trans (HOT.out i hi hne' ht)⟩
  have h5 := HO.out
  rw [SC.out, ← byteCells_app] at h5
  refine Lib.BuilderAt.put hBb HB2.out ?_ (by decide)
  rw [byteCells_len, List.length_append]
  exact h5
end Go.Proofs.YtihhgnjkmhdpmaaGreatDoor
