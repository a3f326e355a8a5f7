/- Layer 3: two sets put together word by word; Union, Meet, Minus, Not, Sub. -/
import Derived.Test.YtedbhjladpfafaaA
import Derived.Laws.StructEq
import Derived.ChangeKeysEq
import Derived.Deep.CutRange
namespace Go.Proofs.Ytedbhjladpfafaa
open Go.RowKit
theorem SA.new' (W : World) (p : Nat → Bool) (B : Nat) (h : B = W.heap.size) : SA (W.alloc (.cells (sc p) 26)) B p := h ▸ SA.new W p
theorem SA.zero' (W : World) (B : Nat) (h : B = W.heap.size) : SA (W.alloc (.cells #[.int .u64 0, .int .u64 0, .int .u64 0, .int .u64 0] 26)) B (fun _ => false) := h ▸ SA.zero W
theorem SA.drew {W : World} {B : Nat} {p : Nat → Bool} (h : SA W B p) : SA W.drew B p := h
theorem eq4 (w : World) (p q : Nat → Bool) : (Op.equalIn 10000 26 (.agg (sc p)) (.agg (sc q))).run Try.prog w = .ok (eqS p q) w := by
  obtain ⟨i, hi⟩ := info_of_underlying Try.underlying24
  have hp : ∀ (xs : Array Value) (k : Nat) (v : Value), xs[k]? = some v → (Go.part 24 xs k).run Try.prog w = .ok v w := fun xs k v h => run_part_plain w (by kernel_rfl) h
  have hc : Try.prog.cellsOf 24 = 1 := by kernel_rfl
  have he : ∀ a b : Nat, (Op.equalIn 9999 24 (.int .u64 (a : Int)) (.int .u64 (b : Int))).run Try.prog w = .ok (a == b) w := fun a b => by
    rw [run_equalIn_int w 9998 _ .u64 .u64 a b Try.underlying24]
    congr 1
    rw [Bool.eq_iff_iff]; simp; omega
  have hg : ∀ p j, j < 4 → (Go.part 24 (sc p) j).run Try.prog w = .ok (.int .u64 ((wd p j : Nat) : Int)) w := fun p j hj => hp _ _ _ (sc_get p j hj)
  rw [show (10000 : Nat) = 9999 + 1 from rfl, run_equalIn_array w 9999 _ _ Try.underlying26 hi, hc, show List.range 4 = [0, 1, 2, 3] from rfl]
  simp only [Op.eqItems, Sem.run_bind, Nat.mul_one, hg p 0 (by omega), hg p 1 (by omega), hg p 2 (by omega), hg p 3 (by omega), hg q 0 (by omega), hg q 1 (by omega), hg q 2 (by omega), hg q 3 (by omega), Result.andThen_ok, he, Sem.run_ite, Sem.run_pure]
  unfold eqS
  cases wd p 0 == wd q 0 <;> cases wd p 1 == wd q 1 <;> cases wd p 2 == wd q 2 <;> cases wd p 3 == wd q 3 <;> rfl
theorem guard4 (op : BinOp) (x y : Operand) (xs ys : Array Value) (w : World) : (eqGuard op 26 x y (.agg xs) (.agg ys)).run Try.prog w = .ok () w := run_eqGuard_agg w op _ x y xs ys (by kernel_rfl)
/-- What a function that returns a set leaves. -/
def SetPost (w : World) (r : Nat → Bool) (e : Ending) (w' : World) : Prop := e = .returned (sv r) ∧ Below w.heap.size w w'
theorem upto4 {p : Nat → Bool} {k : Nat} : wd p k = wd (fun i => decide (i < 64 * (k + 1)) && p i) k :=
  wd_congr fun j hj => by rw [show decide (64 * k + j < 64 * (k + 1)) = true by simp; omega]; rfl
theorem upto4_ne {p : Nat → Bool} {k i : Nat} (hi : i ≠ k) : wd (fun i => decide (i < 64 * (k + 1)) && p i) i = wd (fun i => decide (i < 64 * k) && p i) i :=
  wd_congr fun j hj => by
    congr 1
    rw [Bool.eq_iff_iff]; simp; omega
set_option maxHeartbeats 400000 in
set_option maxRecDepth 100000 in
theorem combine_any (f : FuncId) (p q r : Nat → Bool) (w : World) (hcf : ∀ a b w', (callFunc f #[a, b]).run Try.prog w' = .ok (.enter f #[a, b]) w') (hf : ∀ k, k < 4 → ∀ w', Calls Try.prog f #[.int .u64 ((wd p k : Nat) : Int), .int .u64 ((wd q k : Nat) : Int)] w' fun e w'' => e = .returned (.int .u64 ((wd r k : Nat) : Int)) ∧ w'' = w') :
    Calls Try.prog 41 #[sv p, sv q, .func (.func f) #[] #[]] w (SetPost w r) := by
  have HF := Lib.hid hf
  clear hf
  go_enter Try.func41, Try.ntmps41
  go_wp2
  go_loopw [8, 9] (fun _ i wr => ∃ k : Nat, k ≤ 4 ∧ i = .int .i64 k ∧ SA wr w.heap.size p ∧ SA wr (w.heap.size + 1) q ∧ SA wr (w.heap.size + 1 + 1) (fun _ => false) ∧ SA wr (w.heap.size + 1 + 1 + 1) (fun i => decide (i < 64 * k) && r i) ∧ Below w.heap.size w wr) (fun _ i _ => 4 - (intOf i).toNat)
  case atStart =>
    refine ⟨0, Nat.zero_le _, rfl, ?_, ?_, ?_, ?_, ?_⟩
    · exact (((SA.new w p).alloc _).alloc _).alloc _
    · exact ((SA.new' _ q _ (by simp)).alloc _).alloc _
    · exact (SA.zero' _ _ (by simp)).alloc _
    · exact (SA.zero' _ _ (by simp)).congr fun i _ => by simp
    · exact ((((Below.refl _ w).alloc (by simp) _).alloc (by simp) _).alloc (by simp; omega) _).alloc (by simp; omega) _
  case round =>
    obtain ⟨k, hk, rfl, h1, h2, h3, h4, hb⟩ := hrel
    by_cases hlt : k < 4
    · have hltb : decide ((k : Int) < 4) = true := decide_eq_true (by omega)
      have c1 := h1.cell k hlt
      have c2 := h2.cell k hlt
      have c4 := h4.cell k hlt
      have f4 := h4.frozen k
      have hk4 : (k : Int) < 4 := by omega
      have CL := fun w' => HF.out k hlt w'
      have HS := Lib.hid (And.intro h1 (And.intro h2 (And.intro h3 h4)))
      clear h1 h2 h3 h4
      go_wp2
      refine wp_region_still_tail 10 (by kernel_rfl) (by kernel_rfl) ?_
      simp only [List.take_succ_cons, List.take_zero, List.drop_succ_cons, List.drop_zero]
      repeat (first | still_step | still_call (CL _))
      refine wpStill_nil ?_
      go_wp2
      go_roundw
      case rel =>
        obtain ⟨h1, h2, h3, h4⟩ := HS.out
        have hp : PutAt (w.heap.size + 1 + 1 + 1) wr (wr.setCell ⟨w.heap.size + 1 + 1 + 1, k, none⟩ (.int .u64 ((wd r k : Nat) : Int))) := ⟨rfl, rfl, rfl, by simp [World.setCell], fun j hj => Below.heap_setCell _ _ _ _ hj⟩
        refine ⟨k + 1, by omega, by go_num, hp.sa (by omega) h1, hp.sa (by omega) h2, hp.sa (by omega) h3, ?_, (hb.trans (hp.below (by omega))).drew⟩
        have := h4.set (q := fun i => decide (i < 64 * (k + 1)) && r i) k hlt (fun i _ hi => upto4_ne hi)
        rw [← upto4] at this
        exact this
      case measure => simp [intOf]; omega
    · obtain rfl : k = 4 := by omega
      have h5 := h4.congr (q := r) fun i hi => by rw [show decide (i < 64 * 4) = true by simp; omega]; rfl
      have HB := Lib.hid hb
      clear h4 h1 h2 hb
      go_wp2_with (first
        | (refine wpList_get rfl _ rfl _ rfl _ h5 ?_)
        | (refine wpList_put rfl _ _ rfl _ rfl _ r rfl h3 ?_; intro w2 s2 p2))
      refine bodyPost_ret (v := sv r) (set_result Try.results41 _ _ (w.heap.size + 1 + 1) r rfl s2) rfl ⟨rfl, ?_⟩
      exact HB.out.trans (p2.below (by omega))
theorem union1_any (p q : Nat → Bool) (k : Nat) (w : World) : Calls Try.prog 42 #[.int .u64 ((wd p k : Nat) : Int), .int .u64 ((wd q k : Nat) : Int)] w fun e w' => e = .returned (.int .u64 ((wd (fun i => p i || q i) k : Nat) : Int)) ∧ w' = w := by
  have e1 := wd_orw p q k
  go_enter Try.func42, Try.ntmps42
  go_wp2
  go_ret
  exact ⟨rfl, rfl⟩
theorem meet1_any (p q : Nat → Bool) (k : Nat) (w : World) : Calls Try.prog 43 #[.int .u64 ((wd p k : Nat) : Int), .int .u64 ((wd q k : Nat) : Int)] w fun e w' => e = .returned (.int .u64 ((wd (fun i => p i && q i) k : Nat) : Int)) ∧ w' = w := by
  have e1 := wd_andw p q k
  go_enter Try.func43, Try.ntmps43
  go_wp2
  go_ret
  exact ⟨rfl, rfl⟩
theorem minus1_any (p q : Nat → Bool) (k : Nat) (w : World) : Calls Try.prog 44 #[.int .u64 ((wd p k : Nat) : Int), .int .u64 ((wd q k : Nat) : Int)] w fun e w' => e = .returned (.int .u64 ((wd (fun i => p i && !q i) k : Nat) : Int)) ∧ w' = w := by
  have e1 := wd_andNotw p q k
  go_enter Try.func44, Try.ntmps44
  go_wp2
  go_ret
  exact ⟨rfl, rfl⟩
theorem not1_any (p q : Nat → Bool) (k : Nat) (w : World) : Calls Try.prog 45 #[.int .u64 ((wd p k : Nat) : Int), .int .u64 ((wd q k : Nat) : Int)] w fun e w' => e = .returned (.int .u64 ((wd (fun i => !p i) k : Nat) : Int)) ∧ w' = w := by
  have e1 := wd_not p k
  go_enter Try.func45, Try.ntmps45
  go_wp2
  go_ret
  exact ⟨rfl, rfl⟩
abbrev zeros : Obj := .cells #[.int .u64 0, .int .u64 0, .int .u64 0, .int .u64 0] 26
abbrev setO (p : Nat → Bool) : Obj := .cells (sc p) 26
theorem three_new (w : World) (p q : Nat → Bool) : SA (((w.alloc (setO p)).alloc (setO q)).alloc zeros) w.heap.size p ∧ SA (((w.alloc (setO p)).alloc (setO q)).alloc zeros) (w.heap.size + 1) q ∧
    SA (((w.alloc (setO p)).alloc (setO q)).alloc zeros) (w.heap.size + 1 + 1) (fun _ => false) ∧ Below w.heap.size w (((w.alloc (setO p)).alloc (setO q)).alloc zeros) :=
  ⟨((SA.new w p).alloc _).alloc _, (SA.new' _ q _ (by simp)).alloc _, SA.zero' _ _ (by simp), (((Below.refl _ w).alloc (by simp) _).alloc (by simp) _).alloc (by simp; omega) _⟩
theorem two_new (w : World) (p q : Nat → Bool) : SA ((w.alloc (setO p)).alloc (setO q)) w.heap.size p ∧ SA ((w.alloc (setO p)).alloc (setO q)) (w.heap.size + 1) q ∧ Below w.heap.size w ((w.alloc (setO p)).alloc (setO q)) :=
  ⟨(SA.new w p).alloc _, SA.new' _ q _ (by simp), ((Below.refl _ w).alloc (by simp) _).alloc (by simp) _⟩
theorem two_zero (w : World) (p : Nat → Bool) : SA ((w.alloc (setO p)).alloc zeros) w.heap.size p ∧ SA ((w.alloc (setO p)).alloc zeros) (w.heap.size + 1) (fun _ => false) ∧ Below w.heap.size w ((w.alloc (setO p)).alloc zeros) :=
  ⟨(SA.new w p).alloc _, SA.zero' _ _ (by simp), ((Below.refl _ w).alloc (by simp) _).alloc (by simp) _⟩
theorem union_any (p q : Nat → Bool) (w : World) : Calls Try.prog 20 #[sv p, sv q] w (SetPost w (fun i => p i || q i)) := by
  have C := Lib.hid (fun w => combine_any 42 p q _ w (fun _ _ _ => by kernel_rfl) (fun k _ w' => union1_any p q k w'))
  obtain ⟨h1, h2, h3, hb⟩ := three_new w p q
  go_enter Try.func20, Try.ntmps20
  go_wp2_with (first
    | (refine wpList_get rfl _ rfl _ rfl _ h1 ?_)
    | (refine wpList_get rfl _ rfl _ rfl _ h2 ?_)
    | (go_at_call 41; refine (C.out _).mono ?_; rintro e w2 ⟨rfl, hb2⟩; have h4 := h3.below hb2 h3.lt; clear h1 h2 h3)
    | (refine wpList_put rfl _ _ rfl _ rfl _ (fun i => p i || q i) rfl h4 ?_; intro w3 s3 p3)
    )
  refine bodyPost_ret (v := sv (fun i => p i || q i)) (set_result Try.results20 _ _ _ _ rfl s3) rfl ⟨rfl, ?_⟩
  exact (hb.trans (hb2.mono hb.size)).trans (p3.below (by omega))
theorem meet_any (p q : Nat → Bool) (w : World) : Calls Try.prog 22 #[sv p, sv q] w (SetPost w (fun i => p i && q i)) := by
  have C := Lib.hid (fun w => combine_any 43 p q _ w (fun _ _ _ => by kernel_rfl) (fun k _ w' => meet1_any p q k w'))
  obtain ⟨h1, h2, h3, hb⟩ := three_new w p q
  go_enter Try.func22, Try.ntmps22
  go_wp2_with (first
    | (refine wpList_get rfl _ rfl _ rfl _ h1 ?_)
    | (refine wpList_get rfl _ rfl _ rfl _ h2 ?_)
    | (go_at_call 41; refine (C.out _).mono ?_; rintro e w2 ⟨rfl, hb2⟩; have h4 := h3.below hb2 h3.lt; clear h1 h2 h3)
    | (refine wpList_put rfl _ _ rfl _ rfl _ (fun i => p i && q i) rfl h4 ?_; intro w3 s3 p3)
    )
  refine bodyPost_ret (v := sv (fun i => p i && q i)) (set_result Try.results22 _ _ _ _ rfl s3) rfl ⟨rfl, ?_⟩
  exact (hb.trans (hb2.mono hb.size)).trans (p3.below (by omega))
theorem minus_any (p q : Nat → Bool) (w : World) : Calls Try.prog 24 #[sv p, sv q] w (SetPost w (fun i => p i && !q i)) := by
  have C := Lib.hid (fun w => combine_any 44 p q _ w (fun _ _ _ => by kernel_rfl) (fun k _ w' => minus1_any p q k w'))
  obtain ⟨h1, h2, h3, hb⟩ := three_new w p q
  go_enter Try.func24, Try.ntmps24
  go_wp2_with (first
    | (refine wpList_get rfl _ rfl _ rfl _ h1 ?_)
    | (refine wpList_get rfl _ rfl _ rfl _ h2 ?_)
    | (go_at_call 41; refine (C.out _).mono ?_; rintro e w2 ⟨rfl, hb2⟩; have h4 := h3.below hb2 h3.lt; clear h1 h2 h3)
    | (refine wpList_put rfl _ _ rfl _ rfl _ (fun i => p i && !q i) rfl h4 ?_; intro w3 s3 p3)
    )
  refine bodyPost_ret (v := sv (fun i => p i && !q i)) (set_result Try.results24 _ _ _ _ rfl s3) rfl ⟨rfl, ?_⟩
  exact (hb.trans (hb2.mono hb.size)).trans (p3.below (by omega))
theorem not_any (p : Nat → Bool) (w : World) : Calls Try.prog 26 #[sv p] w (SetPost w (fun i => !p i)) := by
  have C := Lib.hid (fun w => combine_any 45 p p _ w (fun _ _ _ => by kernel_rfl) (fun k _ w' => not1_any p p k w'))
  obtain ⟨h1, h3, hb⟩ := two_zero w p
  go_enter Try.func26, Try.ntmps26
  go_wp2_with (first
    | (refine wpList_get rfl _ rfl _ rfl _ h1 ?_)
    | (go_at_call 41; refine (C.out _).mono ?_; rintro e w2 ⟨rfl, hb2⟩; have h4 := h3.below hb2 h3.lt; clear h1 h3)
    | (refine wpList_put rfl _ _ rfl _ rfl _ (fun i => !p i) rfl h4 ?_; intro w3 s3 p3)
    )
  refine bodyPost_ret (v := sv (fun i => !p i)) (set_result Try.results26 _ _ _ _ rfl s3) rfl ⟨rfl, ?_⟩
  exact (hb.trans (hb2.mono hb.size)).trans (p3.below (by omega))
end Go.Proofs.Ytedbhjladpfafaa
