/- Layer 3: Range and Of, both. -/
import Derived.Test.YtedbhjladpfafaaD
import Derived.Test.YtedbhjladpfafaaT
namespace Go.Proofs.Ytedbhjladpfafaa
open Go.RowKit
theorem set_results2 {fn : Func} {t u : Tmp} (h : fn.results = #[.cell t 26, .tmp u]) (tmps : Array Value) (w : World) (B : Nat) (p : Nat → Bool) (x : Value) (hp : tmps.getD t undef = .pointer (some ⟨B, 0, none⟩)) (hx : tmps.getD u undef = x) (hs : SA w B p) :
    (results fn tmps).run Try.prog w = .ok (.tuple #[sv p, x]) w := by
  have hp' : tmps[t]?.getD undef = .pointer (some ⟨B, 0, none⟩) := by simpa using hp
  have hx' : tmps[u]?.getD undef = x := by simpa using hx
  have hl := run_loadVar_row w B _ 26 _ _ _ hs Try.underlying26 rfl (by kernel_rfl)
  simp [results, h, hp', hx', asAddr, hl]
theorem set_results3 {fn : Func} {t u v : Tmp} (h : fn.results = #[.cell t 26, .tmp u, .tmp v]) (tmps : Array Value) (w : World) (B : Nat) (p : Nat → Bool) (x y : Value) (hp : tmps.getD t undef = .pointer (some ⟨B, 0, none⟩)) (hx : tmps.getD u undef = x) (hy : tmps.getD v undef = y) (hs : SA w B p) :
    (results fn tmps).run Try.prog w = .ok (.tuple #[sv p, x, y]) w := by
  have hp' : tmps[t]?.getD undef = .pointer (some ⟨B, 0, none⟩) := by simpa using hp
  have hx' : tmps[u]?.getD undef = x := by simpa using hx
  have hy' : tmps[v]?.getD undef = y := by simpa using hy
  have hl := run_loadVar_row w B _ 26 _ _ _ hs Try.underlying26 rfl (by kernel_rfl)
  simp [results, h, hp', hx', hy', asAddr, hl]
theorem wpList_put0 {ops : Array Oper} {rest : List Oper} {o : Oper} {a : Act} {w : World} {Q : Exit → Act → World → Prop} (hgd : o.guard = none) (x y : Operand) (ho : o.op = .store 26 x y) (B : Nat) (hx : a.eval x = .pointer (some ⟨B, 0, none⟩)) (p : Nat → Bool) (hy : a.eval y = .agg #[.int .u64 0, .int .u64 0, .int .u64 0, .int .u64 0]) (hs : SA w B p)
    (h : ∀ w', SA w' B (fun _ => false) → PutAt B w w' → wpList Try.prog ops Q rest (a.put o.dst undef) w') : wpList Try.prog ops Q (o :: rest) a w :=
  wpList_put hgd x y ho B hx p (fun _ => false) (by rw [hy, sc_none]) hs h
theorem place_word (c : Nat) (hc : c < 256) : ∃ m : Int, (∀ w, Calls Try.prog 40 #[.int .u8 (c : Int)] w fun e w'' => e = .returned (.int .u64 m) ∧ w'' = w) ∧ ∀ p, bits .or .u64 ((wd p (c / 64) : Nat) : Int) m = ((wd (withB p c) (c / 64) : Nat) : Int) :=
  ⟨((2 ^ (c % 64) : Nat) : Int), fun w => (place_any c w hc).mono fun _ _ h => ⟨h.1, h.2.symm⟩, fun p => wd_or p c⟩
/-- Is there a range from low to high? -/
def rngOk (low high : Int) : Bool := decide (0 ≤ low) && decide (high < 256) && decide (low ≤ high)
def rngP (low high : Int) : Nat → Bool := fun i => rngOk low high && (decide (low ≤ (i : Int)) && decide ((i : Int) ≤ high))
def rngE (low high : Int) : Int := if rngOk low high then 0 else 7
def RngPost (w : World) (low high : Int) (e : Ending) (w' : World) : Prop := e = .returned (.tuple #[sv (rngP low high), .int .i64 (rngE low high)]) ∧ Below w.heap.size w w'
theorem one_zero (w : World) : SA (w.alloc zeros) w.heap.size (fun _ => false) ∧ Below w.heap.size w (w.alloc zeros) := ⟨SA.zero w, (Below.refl _ w).alloc (Nat.le_refl _) _⟩
theorem zero_zero (w : World) : SA ((w.alloc zeros).alloc zeros) w.heap.size (fun _ => false) ∧ SA ((w.alloc zeros).alloc zeros) (w.heap.size + 1) (fun _ => false) ∧ Below w.heap.size w ((w.alloc zeros).alloc zeros) :=
  ⟨(SA.zero w).alloc _, SA.zero' _ _ (by simp), ((Below.refl _ w).alloc (Nat.le_refl _) _).alloc (by simp) _⟩
/-- The bytes from low on, below k. -/
def fromTo (low k : Int) : Nat → Bool := fun i => decide (low ≤ (i : Int)) && decide ((i : Int) < k)
theorem fromTo_none (low : Int) : ∀ i : Nat, i < 256 → false = fromTo low low i := fun i _ => by
  unfold fromTo; symm; rw [Bool.and_eq_false_iff]; simp; omega
theorem fromTo_succ (low : Int) (k : Nat) (h : low ≤ k) (i : Nat) : withB (fromTo low k) k i = fromTo low (k + 1) i := by
  unfold withB fromTo
  rw [Bool.eq_iff_iff]; simp; omega
theorem fromTo_rng {low high : Int} (h0 : 0 ≤ low) (h1 : high < 256) (h2 : low ≤ high) (i : Nat) : fromTo low (high + 1) i = rngP low high i := by
  unfold fromTo rngP rngOk
  rw [Bool.eq_iff_iff]; simp; omega
set_option maxHeartbeats 400000 in
set_option maxRecDepth 100000 in
theorem range_any (low high : Int) (w : World) : Calls Try.prog 11 #[.int .i64 low, .int .i64 high] w (RngPost w low high) := by
  by_cases h0 : low < 0
  · have b0 : decide (low < 0) = true := decide_eq_true h0
    have hE : rngE low high = 7 := by unfold rngE rngOk; rw [if_neg]; simp; omega
    have hP : ∀ i, i < 256 → false = rngP low high i := fun i _ => by
      unfold rngP rngOk; symm; rw [Bool.and_eq_false_iff]; left; rw [Bool.eq_false_iff]; simp; omega
    obtain ⟨h1, hb⟩ := one_zero w
    have HE := Lib.hid hE
    have HP := Lib.hid hP
    clear hE hP
    go_enter Try.func11, Try.ntmps11
    go_wp2_with (refine wpList_put0 rfl _ _ rfl _ rfl _ rfl h1 ?_; intro w3 s3 p3)
    refine bodyPost_ret (v := .tuple #[sv (rngP low high), .int .i64 (rngE low high)]) (set_results2 Try.results11 _ _ _ _ _ rfl (by rw [HE.out]; rfl) (s3.congr HP.out)) rfl ⟨rfl, ?_⟩
    exact hb.trans (p3.below (Nat.le_refl _))
  · have b0 : decide (low < 0) = false := decide_eq_false h0
    by_cases hh : 256 ≤ high
    · have b1 : decide (256 ≤ high) = true := decide_eq_true hh
      have hE : rngE low high = 7 := by unfold rngE rngOk; rw [if_neg]; simp; omega
      have hP : ∀ i, i < 256 → false = rngP low high i := fun i _ => by
        unfold rngP rngOk; symm; rw [Bool.and_eq_false_iff]; left; rw [Bool.eq_false_iff]; simp; omega
      obtain ⟨h1, hb⟩ := one_zero w
      have HE := Lib.hid hE
      have HP := Lib.hid hP
      clear hE hP
      go_enter Try.func11, Try.ntmps11
      go_wp2_with (refine wpList_put0 rfl _ _ rfl _ rfl _ rfl h1 ?_; intro w3 s3 p3)
      refine bodyPost_ret (v := .tuple #[sv (rngP low high), .int .i64 (rngE low high)]) (set_results2 Try.results11 _ _ _ _ _ rfl (by rw [HE.out]; rfl) (s3.congr HP.out)) rfl ⟨rfl, ?_⟩
      exact hb.trans (p3.below (Nat.le_refl _))
    · have b1 : decide (256 ≤ high) = false := decide_eq_false hh
      by_cases hl : high < low
      · have b2 : decide (high < low) = true := decide_eq_true hl
        have hE : rngE low high = 7 := by unfold rngE rngOk; rw [if_neg]; simp; omega
        have hP : ∀ i, i < 256 → false = rngP low high i := fun i _ => by
          unfold rngP rngOk; symm; rw [Bool.and_eq_false_iff]; left; rw [Bool.eq_false_iff]; simp; omega
        obtain ⟨h1, hb⟩ := one_zero w
        have HE := Lib.hid hE
        have HP := Lib.hid hP
        clear hE hP
        go_enter Try.func11, Try.ntmps11
        go_wp2_with (refine wpList_put0 rfl _ _ rfl _ rfl _ rfl h1 ?_; intro w3 s3 p3)
        refine bodyPost_ret (v := .tuple #[sv (rngP low high), .int .i64 (rngE low high)]) (set_results2 Try.results11 _ _ _ _ _ rfl (by rw [HE.out]; rfl) (s3.congr HP.out)) rfl ⟨rfl, ?_⟩
        exact hb.trans (p3.below (Nat.le_refl _))
      · have b2 : decide (high < low) = false := decide_eq_false hl
        obtain ⟨m, rfl⟩ : ∃ m : Nat, high = m := ⟨high.toNat, by omega⟩
        obtain ⟨l, rfl⟩ : ∃ l : Nat, low = l := ⟨low.toNat, by omega⟩
        obtain ⟨h1, h2, hb⟩ := zero_zero w
        have HE := Lib.hid (show rngE l m = 0 by unfold rngE rngOk; rw [if_pos]; simp; omega)
        have HP := Lib.hid (fun i (_ : i < 256) => fromTo_rng (i := i) (low := l) (high := m) (by omega) (by omega) (by omega))
        go_enter Try.func11, Try.ntmps11
        go_wp2
        go_loopw [7] (fun i wr => ∃ k : Nat, l ≤ k ∧ k ≤ m + 1 ∧ i = .int .i64 k ∧ SA wr w.heap.size (fun _ => false) ∧ SA wr (w.heap.size + 1) (fromTo l k) ∧ Below w.heap.size w wr) (fun i _ => m + 1 - (intOf i).toNat)
        case atStart => exact ⟨l, Nat.le_refl _, by omega, rfl, h1, h2.congr (fromTo_none l), hb⟩
        case round =>
          obtain ⟨k, hk, hkm, rfl, h1, h2, hb⟩ := hrel
          by_cases hlt : k ≤ m
          · have hltb : decide ((k : Int) ≤ (m : Int)) = true := decide_eq_true (by omega)
            obtain ⟨x, PL, hor⟩ := place_word k (by omega)
            have hc := h2.cell (k / 64) (by omega)
            have hf := h2.frozen (k / 64)
            have ho := hor (fromTo l k)
            have hk4 : (k : Int) / 64 < 4 := by omega
            have hq : IntKind.i64.wrap ((k : Int) / 64) = (k : Int) / 64 := IntWalk.i64_in _ (by omega)
            have hq0 : 0 ≤ (k : Int) / 64 := by omega
            have hqn : ((k : Int) / 64).toNat = k / 64 := by omega
            have hu8 : IntKind.u8.wrap (k : Int) = k := by rw [IntKind.wrap_u8]; omega
            have HS := Lib.hid (And.intro h1 (And.intro h2 hb))
            clear h1 h2 hb hor
            go_wp2
            refine wp_region_still_tail 9 (by kernel_rfl) (by kernel_rfl) ?_
            simp only [List.take_succ_cons, List.take_zero, List.drop_succ_cons, List.drop_zero]
            repeat (first | still_step | still_call (PL _))
            refine wpStill_nil ?_
            go_wp2
            go_roundw
            case rel =>
              obtain ⟨h1, h2, hb⟩ := HS.out
              have s2 := (h2.word (q := withB (fromTo l k) k) (k / 64) (by omega) (fun i hi => wd_withB_ne _ k i hi)).congr fun i _ => fromTo_succ l k (by omega) i
              have pw := put_word wr (w.heap.size + 1) (k / 64) (.int .u64 ((wd (withB (fromTo l k) k) (k / 64) : Nat) : Int))
              exact ⟨k + 1, by omega, by omega, by go_num, pw.sa (by omega) h1, by simpa using s2.drew, (hb.trans (pw.below (by omega))).drew⟩
            case measure => simp [intOf]; omega
          · obtain rfl : k = m + 1 := by omega
            have hltb : decide (((m + 1 : Nat) : Int) ≤ (m : Int)) = false := decide_eq_false (by omega)
            have h3 := h2.congr (q := rngP l m) fun i hi => by simpa using HP.out i hi
            have HB := Lib.hid hb
            clear h2 hb
            go_wp2_with (first
              | (refine wpList_get rfl _ rfl _ rfl _ h3 ?_)
              | (refine wpList_put rfl _ _ rfl _ rfl _ (rngP l m) rfl h1 ?_; intro w3 s3 p3)
              )
            refine bodyPost_ret (v := .tuple #[sv (rngP l m), .int .i64 (rngE l m)]) (set_results2 Try.results11 _ _ _ _ _ rfl (by rw [HE.out]; rfl) s3) rfl ⟨rfl, ?_⟩
            exact HB.out.trans (p3.below (Nat.le_refl _))
set_option maxHeartbeats 400000 in
set_option maxRecDepth 100000 in
theorem rrange_any (low high : Int) (w : World) : Calls Try.prog 12 #[.int .i64 low, .int .i64 high] w (RngPost w low high) := by
  by_cases h0 : low < 0
  · have b0 : decide (low < 0) = true := decide_eq_true h0
    have hE : rngE low high = 7 := by unfold rngE rngOk; rw [if_neg]; simp; omega
    have hP : ∀ i, i < 256 → false = rngP low high i := fun i _ => by
      unfold rngP rngOk; symm; rw [Bool.and_eq_false_iff]; left; rw [Bool.eq_false_iff]; simp; omega
    obtain ⟨h1, hb⟩ := one_zero w
    have HE := Lib.hid hE
    have HP := Lib.hid hP
    clear hE hP
    go_enter Try.func12, Try.ntmps12
    go_wp2_with (refine wpList_put0 rfl _ _ rfl _ rfl _ rfl h1 ?_; intro w3 s3 p3)
    refine bodyPost_ret (v := .tuple #[sv (rngP low high), .int .i64 (rngE low high)]) (set_results2 Try.results12 _ _ _ _ _ rfl (by rw [HE.out]; rfl) (s3.congr HP.out)) rfl ⟨rfl, ?_⟩
    exact hb.trans (p3.below (Nat.le_refl _))
  · have b0 : decide (low < 0) = false := decide_eq_false h0
    by_cases hh : 255 < high
    · have b1 : decide (255 < high) = true := decide_eq_true hh
      have hE : rngE low high = 7 := by unfold rngE rngOk; rw [if_neg]; simp; omega
      have hP : ∀ i, i < 256 → false = rngP low high i := fun i _ => by
        unfold rngP rngOk; symm; rw [Bool.and_eq_false_iff]; left; rw [Bool.eq_false_iff]; simp; omega
      obtain ⟨h1, hb⟩ := one_zero w
      have HE := Lib.hid hE
      have HP := Lib.hid hP
      clear hE hP
      go_enter Try.func12, Try.ntmps12
      go_wp2_with (refine wpList_put0 rfl _ _ rfl _ rfl _ rfl h1 ?_; intro w3 s3 p3)
      refine bodyPost_ret (v := .tuple #[sv (rngP low high), .int .i64 (rngE low high)]) (set_results2 Try.results12 _ _ _ _ _ rfl (by rw [HE.out]; rfl) (s3.congr HP.out)) rfl ⟨rfl, ?_⟩
      exact hb.trans (p3.below (Nat.le_refl _))
    · have b1 : decide (255 < high) = false := decide_eq_false hh
      by_cases hl : high < low
      · have b2 : decide (high < low) = true := decide_eq_true hl
        have hE : rngE low high = 7 := by unfold rngE rngOk; rw [if_neg]; simp; omega
        have hP : ∀ i, i < 256 → false = rngP low high i := fun i _ => by
          unfold rngP rngOk; symm; rw [Bool.and_eq_false_iff]; left; rw [Bool.eq_false_iff]; simp; omega
        obtain ⟨h1, hb⟩ := one_zero w
        have HE := Lib.hid hE
        have HP := Lib.hid hP
        clear hE hP
        go_enter Try.func12, Try.ntmps12
        go_wp2_with (refine wpList_put0 rfl _ _ rfl _ rfl _ rfl h1 ?_; intro w3 s3 p3)
        refine bodyPost_ret (v := .tuple #[sv (rngP low high), .int .i64 (rngE low high)]) (set_results2 Try.results12 _ _ _ _ _ rfl (by rw [HE.out]; rfl) (s3.congr HP.out)) rfl ⟨rfl, ?_⟩
        exact hb.trans (p3.below (Nat.le_refl _))
      · have b2 : decide (high < low) = false := decide_eq_false hl
        obtain ⟨m, rfl⟩ : ∃ m : Nat, high = m := ⟨high.toNat, by omega⟩
        obtain ⟨l, rfl⟩ : ∃ l : Nat, low = l := ⟨low.toNat, by omega⟩
        obtain ⟨h1, h2, hb⟩ := zero_zero w
        have HE := Lib.hid (show rngE l m = 0 by unfold rngE rngOk; rw [if_pos]; simp; omega)
        have HP := Lib.hid (fun i (_ : i < 256) => fromTo_rng (i := i) (low := l) (high := m) (by omega) (by omega) (by omega))
        go_enter Try.func12, Try.ntmps12
        go_wp2
        go_loopw [7] (fun i wr => ∃ k : Nat, l ≤ k ∧ k ≤ m + 1 ∧ i = .int .i64 k ∧ SA wr w.heap.size (fun _ => false) ∧ SA wr (w.heap.size + 1) (fromTo l k) ∧ Below w.heap.size w wr) (fun i _ => m + 1 - (intOf i).toNat)
        case atStart => exact ⟨l, Nat.le_refl _, by omega, rfl, h1, h2.congr (fromTo_none l), hb⟩
        case round =>
          obtain ⟨k, hk, hkm, rfl, h1, h2, hb⟩ := hrel
          by_cases hlt : k ≤ m
          · have hltb : decide ((k : Int) ≤ (m : Int)) = true := decide_eq_true (by omega)
            have hu8 : IntKind.u8.wrap (k : Int) = k := by rw [IntKind.wrap_u8]; omega
            have AD := Lib.hid (fun w => radd_any (fromTo l k) k w (by omega))
            go_wp2_with (first
              | (refine wpList_get rfl _ rfl _ rfl _ h2 ?_)
              | (go_at_call 17; refine (AD.out _).mono ?_; rintro e w2 ⟨rfl, hb2⟩; have s1 := h1.below hb2 h1.lt; have s2 := h2.below hb2 h2.lt; clear h1 h2)
              | (refine wpList_put rfl _ _ rfl _ rfl _ (withB (fromTo l k) k) rfl s2 ?_; intro w3 s3 p3)
              )
            go_roundw
            case rel =>
              exact ⟨k + 1, by omega, by omega, by go_num, p3.sa (by omega) s1, by simpa using s3.congr fun i _ => fromTo_succ l k (by omega) i, (hb.trans (hb2.mono hb.size)).trans (p3.below (by omega))⟩
            case measure => simp [intOf]; omega
          · obtain rfl : k = m + 1 := by omega
            have hltb : decide (((m + 1 : Nat) : Int) ≤ (m : Int)) = false := decide_eq_false (by omega)
            have h3 := h2.congr (q := rngP l m) fun i hi => by simpa using HP.out i hi
            have HB := Lib.hid hb
            clear h2 hb
            go_wp2_with (first
              | (refine wpList_get rfl _ rfl _ rfl _ h3 ?_)
              | (refine wpList_put rfl _ _ rfl _ rfl _ (rngP l m) rfl h1 ?_; intro w3 s3 p3)
              )
            refine bodyPost_ret (v := .tuple #[sv (rngP l m), .int .i64 (rngE l m)]) (set_results2 Try.results12 _ _ _ _ _ rfl (by rw [HE.out]; rfl) s3) rfl ⟨rfl, ?_⟩
            exact HB.out.trans (p3.below (Nat.le_refl _))
end Go.Proofs.Ytedbhjladpfafaa
