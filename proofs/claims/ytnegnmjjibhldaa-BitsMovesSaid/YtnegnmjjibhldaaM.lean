/- Layer 2: the iterator over the bits that are 1. -/
import Derived.Test.YtnegnmjjibhldaaL
import Derived.RangeFuncNested
import Derived.RangeFuncBound
import Derived.RangeFuncCalls
import Derived.RangeFuncLeaves
import Derived.RangeFuncWrites
import Derived.RangeFuncBox
import Derived.Shelf.Abstract
import Derived.Shelf.RegionOpen
import Derived.OwnWalkIn
import Derived.TacticsInMore
import Derived.LoopNIn
import Derived.LoopIn
namespace Go.Proofs.Ytnegnmjjibhldaa
open Go.RowKit Go.Shelf
attribute [local go_sem] Oper.semAt_some
/-- All blocks below n0, and the block Bn, are as they were. -/
def KpB (n0 Bn : Nat) (W W' : World) : Prop := W.heap.size ≤ W'.heap.size ∧ (∀ k, k < n0 → W'.heap[k]? = W.heap[k]?) ∧ W'.heap[Bn]? = W.heap[Bn]?
theorem KpB.trans {n0 Bn : Nat} {A B C : World} (h : KpB n0 Bn A B) (k : KpB n0 Bn B C) : KpB n0 Bn A C :=
  ⟨Nat.le_trans h.1 k.1, fun i hi => (k.2.1 i hi).trans (h.2.1 i hi), k.2.2.trans h.2.2⟩
theorem KpB.put {n0 Bn B : Nat} (h0 : n0 ≤ B) (hB : Bn < B) (W : World) (l : Nat) (o o' : Obj) (hl : B ≤ l) (_ : W.heap[l]? = some o) (_ : o.isCells = false) (_ : o.isWalk = false) : KpB n0 Bn W (W.putObj l o') :=
  ⟨by simp, fun k hk => World.putObj_heap_other (by omega), World.putObj_heap_other (by omega)⟩
theorem onesN_lt {xs : List Nat} {k n : Nat} (hk : k < n) (hb : rbit xs k = true) : ((List.range k).filter (rbit xs)).length < ((List.range n).filter (rbit xs)).length := by
  obtain ⟨d, rfl⟩ : ∃ d, n = k + 1 + d := ⟨n - (k + 1), by omega⟩
  rw [List.range_add, List.filter_append, onesUpto_succ, hb]
  simp [Nat.add_assoc]
def encB (x : Nat) : Array Value := #[.int .i64 (x : Int)]
set_option maxRecDepth 100000 in
theorem ones_iter {n Bn n0 b o c m : Nat} {w : World} {xs : List Nat} (hn : 2 ≤ n) (hm : xs.length = m) (hm0 : 0 < m) (hm8 : m ≤ 8) (hw : Wf xs)
    (hbx : w.heap[Bn]? = some (.cells #[.slice (some ⟨b, o, none⟩) m c] 22)) (hmc : m ≤ c) (hb0 : b < n0) (hn0 : n0 ≤ w.heap.size)
    (hc : ∀ i x, xs[i]? = some x → w.cell? ⟨b, o + i, none⟩ = some (.int .u64 (x : Nat))) :
    SeqStopsK Fence.wide n Try.prog 51 #[.pointer (some ⟨Bn, 0, none⟩)] encB (KpB n0 Bn) (fun ys => ys = onesL xs) (fun _ => True) (onesL xs).length w := by
  intro l J Jx W hW hJ hJx hY h0
  have hBl : Bn < w.heap.size := (Array.getElem?_eq_some_iff.1 hbx).1
  have hbx1 : W.heap[Bn]? = some (.cells #[.slice (some ⟨b, o, none⟩) m c] 22) := (hW.block _ hBl).trans hbx
  have hc1 : ∀ i x, xs[i]? = some x → W.cell? ⟨b, o + i, none⟩ = some (.int .u64 (x : Nat)) := fun i x h => (hW.cell (p := ⟨b, o + i, none⟩) (by simp; omega)).trans (hc i x h)
  have HC := Lib.hid hc1
  have HM := Lib.hid hm
  have hcell : W.cell? ⟨Bn, 0, none⟩ = some (.slice (some ⟨b, o, none⟩) m c) := by simp [World.cell?, hbx1]
  have HB := Lib.hid hbx1
  have HL := Lib.hid (show onesL xs = (List.range (64 * m)).filter (rbit xs) by unfold onesL; rw [hm])
  clear hc hc1 hbx1 hbx hm hW
  refine callsIn_of_wp Try.func51 rfl trivial ?_ rfl
  simp only [Try.ntmps51, List.size_toArray, List.length_cons, List.length_nil, Nat.reduceAdd, Nat.reduceSub, Array.replicate_succ, Array.replicate_zero, List.push_toArray, List.append_toArray, List.nil_append, List.cons_append]
  gi_wp2
  gi_loopw [3, 7] (fun _ i wr => ∃ k : Nat, k ≤ 64 * m ∧ i = .int .i64 k ∧ J ((List.range k).filter (rbit xs)) wr ∧ KpB n0 Bn W wr) (fun _ i _ => 64 * m - (intOf i).toNat)
  case atStart => exact ⟨0, Nat.zero_le _, rfl, h0, Nat.le_refl _, fun _ _ => rfl, rfl⟩
  case round =>
    obtain ⟨k, hk, rfl, hj, hkp⟩ := hrel
    by_cases hlt : k < 64 * m
    · have hltb : decide ((k : Int) < 64 * (m : Int)) = true := decide_eq_true (by omega)
      have hb2 := hkp.2.2.trans HB.out
      have hcw : wr.cell? ⟨Bn, 0, none⟩ = some (.slice (some ⟨b, o, none⟩) m c) := by simp [World.cell?, hb2]
      have hv : URow wr (.slice (some ⟨b, o, none⟩) m c) xs := ⟨_, c, by rw [HM.out], by rw [HM.out]; exact hmc, fun i x hi => ⟨b, o, rfl, by
        have := HC.out i x hi
        have e := hkp.2.1 b hb0
        simp only [World.cell?, e] at this ⊢
        exact this⟩⟩
      have BT := Lib.hid (callsIn_wide (n := n - 1).2 (bit_any _ xs k wr hv hw (by rw [HM.out]; omega) (by rw [HM.out]; exact hlt)))
      have JD := Lib.hid (fun d => hJ _ wr (wr.drewN d) none hj ⟨rfl, rfl, rfl, Nat.le_refl _, fun _ _ _ => rfl⟩ (fun r e => by cases e))
      clear hv hb2
      rcases hbk : rbit xs k with _ | _
      · rw [hbk] at BT
        have HS := Lib.hid (show (List.range (k + 1)).filter (rbit xs) = (List.range k).filter (rbit xs) by rw [onesUpto_succ, hbk]; simp)
        clear hbk
        gi_wp2_with (refine ⟨trivial, fun _ => by omega, ?_⟩; refine BT.out.mono ?_; rintro e w' ⟨rfl, d, rfl⟩)
        refine ⟨fun _ h => (by cases h), ?_⟩
        gi_wp2
        go_roundw
        case rel => exact ⟨k + 1, by omega, by go_num, by rw [HS.out]; exact JD.out d, hkp⟩
        case measure => simp [intOf]; omega
      · have HS := Lib.hid (show (List.range (k + 1)).filter (rbit xs) = (List.range k).filter (rbit xs) ++ [k] by rw [onesUpto_succ, hbk]; simp)
        have HY := Lib.hid (fun d => hY _ k (wr.drewN d) (JD.out d) (by rw [HL.out]; exact onesN_lt hlt hbk))
        rw [hbk] at BT
        clear hbk hY
        gi_wp2_with (refine ⟨trivial, fun _ => by omega, ?_⟩; refine BT.out.mono ?_; rintro e w' ⟨rfl, d, rfl⟩; obtain ⟨fn, tmps, assign, body, hy, hR⟩ := HY.out d; simp only [encB] at hy)
        refine ⟨fun _ => by omega, ?_⟩
        refine hR.mono ?_
        rintro e W3 (⟨rfl, hJ3, hk3⟩ | ⟨rfl, hJx3⟩)
        · gi_wp2
          go_roundw
          case rel => exact ⟨k + 1, by omega, by go_num, by rw [HS.out]; exact hJ3, hkp.trans hk3⟩
          case measure => simp [intOf]; omega
        · gi_wp2
          refine bodyPost_ret (results_none rfl _ _ _) rfl ?_
          exact ⟨⟨_, rfl⟩, .inr ⟨_, trivial, hJx3⟩⟩
    · obtain rfl : k = 64 * m := by omega
      have hltb : decide (((64 * m : Nat) : Int) < 64 * (m : Int)) = false := decide_eq_false (by omega)
      gi_wp2
      go_end0
      exact ⟨⟨_, rfl⟩, .inl ⟨_, HL.out.symm, hj⟩⟩
end Go.Proofs.Ytnegnmjjibhldaa
