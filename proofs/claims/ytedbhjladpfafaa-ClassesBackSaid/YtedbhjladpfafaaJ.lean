/- Layer 3: the iterator over the bytes of a set. -/
import Derived.Test.YtedbhjladpfafaaI
import Derived.Test.YtedbhjladpfafaaR
import Derived.RangeFuncNested
import Derived.RangeFuncBound
import Derived.RangeFuncCalls
import Derived.RangeFuncLeaves
import Derived.RangeFuncWrites
import Derived.RangeFuncBox
import Derived.Shelf.Abstract
import Derived.Shelf.RegionOpen
import Derived.OwnWalkIn
import Derived.TacticsInMore
import Derived.LoopNIn
import Derived.LoopIn
namespace Go.Proofs.Ytedbhjladpfafaa
open Go.RowKit Go.Shelf
attribute [local go_sem] Oper.semAt_some
/-- The bytes of a set, ascending. -/
def listB (p : Nat → Bool) : List Nat := (List.range 256).filter p
theorem upto_no {p : Nat → Bool} {k : Nat} (h : p k = false) : (List.range (k + 1)).filter p = (List.range k).filter p := by
  rw [List.range_succ, List.filter_append]; simp [h]
theorem upto_yes {p : Nat → Bool} {k : Nat} (h : p k = true) : (List.range (k + 1)).filter p = (List.range k).filter p ++ [k] := by
  rw [List.range_succ, List.filter_append]; simp [h]
def encC (x : Nat) : Array Value := #[.int .u8 (x : Int)]
/-- Block Bn is as it was. -/
def Kp (Bn : Nat) (W W' : World) : Prop := W'.heap[Bn]? = W.heap[Bn]?
theorem Kp.trans {Bn : Nat} {A B C : World} (h : Kp Bn A B) (k : Kp Bn B C) : Kp Bn A C := Eq.trans k h
/-- What a round is given: x, a byte of p, behind all smaller ones. -/
def okB (p : Nat → Bool) (pre : List Nat) (x : Nat) : Prop := p x = true ∧ x < 256 ∧ pre = (List.range x).filter p
theorem grown_of {W W' : World} (h : Below W.heap.size W W') : W.grownBy W' none := ⟨h.os, h.tape, h.output, h.size, fun k hk _ => h.block k hk⟩
theorem wpListIn_get {F : Fence} {n : Nat} {ops : Array Oper} {rest : List Oper} {o : Oper} {a : Act} {w : World} {Q : Exit → Act → World → Prop} (hgd : o.guard = none) (x : Operand) (ho : o.op = .load 26 x) (B : Nat) (hx : a.eval x = .pointer (some ⟨B, 0, none⟩)) (p : Nat → Bool) (hs : SA w B p)
    (h : wpListIn F n Try.prog ops Q rest (a.put o.dst (sv p)) w) : wpListIn F n Try.prog ops Q (o :: rest) a w := by
  refine wpListIn_plain hgd fun K hK => ?_
  unfold Oper.wpIn
  refine ⟨?_, ?_⟩
  · simp [Oper.about, ho]
  · rw [Oper.semAt_plain F _ _ (by rw [ho]; intro c hc'; cases hc')]
    have hl := run_loadVar_row (P := Try.prog) w B _ 26 _ _ _ hs Try.underlying26 rfl (by kernel_rfl)
    simp [execOp, ho, hx, Instr.loadAt, Instr.sureAddr, hl, Result.andThen]
    exact hK _ _ h
set_option maxRecDepth 100000 in
theorem bytes_iter {n Bn : Nat} {w : World} {p : Nat → Bool} (hn : 2 ≤ n) (hbx : SA w Bn p) :
    RX.SeqOk Fence.wide n Try.prog 52 #[.pointer (some ⟨Bn, 0, none⟩)] encC (Kp Bn) (okB p) (fun ys => ys = listB p) w := by
  intro l J W hW hJ hY h0
  have hb1 : SA W Bn p := hbx.below hW hbx.lt
  have HB := Lib.hid hb1
  clear hbx hb1 hW
  refine callsIn_of_wp Try.func52 rfl trivial ?_ rfl
  simp only [Try.ntmps52, List.size_toArray, List.length_cons, List.length_nil, Nat.reduceAdd, Nat.reduceSub, Array.replicate_succ, Array.replicate_zero, List.push_toArray, List.append_toArray, List.nil_append, List.cons_append]
  gi_wp2
  gi_loopw [3, 4] (fun _ i wr => ∃ k : Nat, k ≤ 256 ∧ i = .int .i64 k ∧ J ((List.range k).filter p) wr ∧ Kp Bn W wr) (fun _ i _ => 256 - (intOf i).toNat)
  case atStart => exact ⟨0, Nat.zero_le _, rfl, h0, rfl⟩
  case round =>
    obtain ⟨k, hk, rfl, hj, hkp⟩ := hrel
    by_cases hlt : k < 256
    · have hltb : decide ((k : Int) < 256) = true := decide_eq_true (by omega)
      have hs : SA wr Bn p := Eq.trans hkp HB.out
      have hu8 : IntKind.u8.wrap (k : Int) = k := by rw [IntKind.wrap_u8]; omega
      have HT := Lib.hid (callsIn_wide (n := n - 1).2 (has_any p k wr hlt))
      have JD := Lib.hid (fun w2 (h : Below wr.heap.size wr w2) => hJ _ wr w2 hj (grown_of h))
      have KD := Lib.hid (fun w2 (h : Below wr.heap.size wr w2) => Kp.trans hkp (h.block Bn hs.lt))
      have KH := Lib.hid (fun w2 (h : Below wr.heap.size wr w2) => h.block Bn hs.lt)
      rcases hpk : p k with _ | _
      · rw [hpk] at HT
        have HS := Lib.hid (upto_no hpk)
        clear hpk
        gi_wp2_with (first
          | (gi_at_call 14; refine HT.out.mono ?_; rintro e w2 ⟨rfl, hb2⟩)
          | (refine ⟨trivial, fun _ => by omega, ?_⟩; gi_at_call 14; refine HT.out.mono ?_; rintro e w2 ⟨rfl, hb2⟩)
          | (refine wpListIn_get rfl _ rfl _ rfl _ hs ?_))
        refine ⟨fun _ h => (by cases h), ?_⟩
        gi_wp2
        go_roundw
        case rel => exact ⟨k + 1, by omega, by go_num, by rw [HS.out]; exact JD.out _ hb2, KD.out _ hb2⟩
        case measure => simp [intOf]; omega
      · have HS := Lib.hid (upto_yes hpk)
        have HY := Lib.hid (fun w2 (h : Below wr.heap.size wr w2) => hY _ k w2 (JD.out w2 h) ⟨hpk, hlt, rfl⟩)
        rw [hpk] at HT
        clear hpk hY
        gi_wp2_with (first
          | (gi_at_call 14; refine HT.out.mono ?_; rintro e w2 ⟨rfl, hb2⟩; obtain ⟨fn, tmps, assign, body, hy, hR⟩ := HY.out w2 hb2; simp only [encC] at hy)
          | (refine ⟨trivial, fun _ => by omega, ?_⟩; gi_at_call 14; refine HT.out.mono ?_; rintro e w2 ⟨rfl, hb2⟩; obtain ⟨fn, tmps, assign, body, hy, hR⟩ := HY.out w2 hb2; simp only [encC] at hy)
          | (refine wpListIn_get rfl _ rfl _ rfl _ hs ?_))
        refine ⟨fun _ => by omega, ?_⟩
        refine hR.mono ?_
        rintro e W3 ⟨rfl, hJ3, hk3⟩
        gi_wp2
        go_roundw
        case rel => exact ⟨k + 1, by omega, by go_num, by rw [HS.out]; exact hJ3, (KD.out _ hb2).trans hk3⟩
        case measure => simp [intOf]; omega
    · obtain rfl : k = 256 := by omega
      have hltb : decide (((256 : Nat) : Int) < 256) = false := by decide
      gi_wp2
      go_end0
      exact ⟨⟨_, rfl⟩, _, rfl, hj⟩
theorem bytesOf_any (p : Nat → Bool) (w : World) : Calls Try.prog 48 #[sv p] w fun e w' => e = .returned (.func (.func 52) #[] #[.pointer (some ⟨w.heap.size, 0, none⟩)]) ∧ w' = w.alloc (setO p) := by
  go_enter Try.func48, Try.ntmps48
  go_wp2
  go_ret
  exact ⟨rfl, rfl⟩
end Go.Proofs.Ytedbhjladpfafaa
