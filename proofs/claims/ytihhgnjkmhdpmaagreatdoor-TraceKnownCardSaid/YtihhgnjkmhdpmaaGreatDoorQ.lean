/- The iterator over the runs of a trace. -/
import Derived.Test.YtihhgnjkmhdpmaaGreatDoorO
import Derived.RangeFuncNested
import Derived.RangeFuncBound
import Derived.RangeFuncCalls
import Derived.RangeFuncLeaves
import Derived.RangeFuncWrites
import Derived.RangeFuncBox
import Derived.RangeFuncGives
import Derived.Shelf.Abstract
import Derived.Shelf.RegionOpen
import Derived.OwnWalkIn
import Derived.TacticsInMore
import Derived.LoopNIn
import Derived.LoopIn
namespace Go.Proofs.YtihhgnjkmhdpmaaGreatDoor
open Go.RowKit Go.Shelf
attribute [local go_sem] Oper.semAt_some
def encR (r : Run) : Array Value := #[runV r]
/-- A run of a good trace. -/
abbrev GR := { r : Run // r.good }
def encG (r : GR) : Array Value := encR r.val
abbrev valL (l : List GR) : List Run := l.map Subtype.val
/-- Boxes of runs, and the blocks B1 and b, are as they were. -/
def KpR (B1 b : Nat) (W W' : World) : Prop := (∀ (i : Nat) (cs : Array Value), W.heap[i]? = some (Obj.cells cs 56 (0, 0)) → W'.heap[i]? = some (Obj.cells cs 56 (0, 0))) ∧ W'.heap[B1]? = W.heap[B1]? ∧ W'.heap[b]? = W.heap[b]?
theorem KpR.trans {B1 b : Nat} {A B C : World} (h : KpR B1 b A B) (k : KpR B1 b B C) : KpR B1 b A C := ⟨fun i cs hi => k.1 i cs (h.1 i cs hi), k.2.1.trans h.2.1, k.2.2.trans h.2.2⟩
theorem KpR.below {B1 b : Nat} {W W' : World} (h : Below W.heap.size W W') (h1 : B1 < W.heap.size) (h2 : b < W.heap.size) : KpR B1 b W W' :=
  ⟨fun i _ hi => (h.block i (Array.getElem?_eq_some_iff.1 hi).1).trans hi, h.block _ h1, h.block _ h2⟩
theorem KpR.refl {B1 b : Nat} (W : World) : KpR B1 b W W := ⟨fun _ _ h => h, rfl, rfl⟩
theorem grown_of {W W' : World} (h : Below W.heap.size W W') : W.grownBy W' none := ⟨h.os, h.tape, h.output, h.size, fun k hk _ => h.block k hk⟩
theorem runs_any (p : Option Addr) (m c : Nat) (w : World) : Calls Tryz.prog 20 #[.slice p m c] w fun e w' => e = .returned (.func (.func 39) #[] #[.pointer (some ⟨w.heap.size, 0, none⟩)]) ∧ w' = w.alloc (.cells #[.slice p m c] 22) := by
  go_enter Tryz.func20, Tryz.ntmps20
  go_wp2
  go_ret
  exact ⟨rfl, rfl⟩
def lenV : Value → Nat
  | .slice _ n _ => n
  | _ => 0
theorem headR_le {l : List Ev} (h : 0 < l.length) : 1 ≤ (headR l).n ∧ (headR l).n ≤ l.length := by
  cases l with
  | nil => simp at h
  | cons x r =>
    have := growN_le x.1 r (x.2 + 1)
    unfold headR
    simp; omega
theorem runsL_head {l : List Ev} (h : 0 < l.length) : runsL l = headR l :: runsL (l.drop (headR l).n) := by
  cases l with
  | nil => simp at h
  | cons x r => rw [runsL_cons]; unfold headR; simp
theorem TRb.drop {W : World} {b o c N : Nat} {l : List Ev} (h : TRb W b (.slice (some ⟨b, o, none⟩) l.length c) l) (hN : N < l.length) : TRb W b (.slice (some ⟨b, o + N * 2, none⟩) (l.length - N) (c - N)) (l.drop N) := by
  obtain ⟨p, c', e, hc, hx⟩ := h
  cases e
  refine ⟨_, c - N, by rw [List.length_drop], by rw [List.length_drop]; omega, fun i x hi => ?_⟩
  rw [List.getElem?_drop] at hi
  obtain ⟨o', e, h1, h2, h3⟩ := hx _ _ hi
  cases e
  refine ⟨_, rfl, h1, ?_, ?_⟩
  · rw [show o + N * 2 + i * 2 = o + (N + i) * 2 by omega]; exact h2
  · rw [show o + N * 2 + i * 2 + 1 = o + (N + i) * 2 + 1 by omega]; exact h3
theorem TRb.empty {W : World} {b : Nat} (p : Option Addr) (c : Nat) : TRb W b (.slice p 0 c) [] := ⟨p, c, rfl, Nat.zero_le _, fun i x h => by simp at h⟩
theorem good_drop {l : List Ev} {N : Nat} (h : ∀ x ∈ l, evE 65536 x = 0) : ∀ x ∈ l.drop N, evE 65536 x = 0 := fun x hx => h x (List.mem_of_mem_drop hx)
set_option maxHeartbeats 1600000 in
set_option maxRecDepth 100000 in
theorem runs_iter {n B1 b : Nat} {w : World} {v : Value} {l0 : List Ev} (hn : 2 ≤ n) (hbx : Boxed w B1 22 v) (ht : TRb w b v l0) (hbw : b < w.heap.size) (hg : ∀ x ∈ l0, evE 65536 x = 0) (hl : l0.length ≤ 8388608) :
    SeqStopsK Fence.wide n Tryz.prog 39 #[.pointer (some ⟨B1, 0, none⟩)] encG (KpR B1 b) (fun ys => valL ys = runsL l0) (fun pre => ∃ rest, runsL l0 = valL pre ++ rest) (runsL l0).length w := by
  intro lb J Jx W hW hJ hJx hY h0
  have b1 : Boxed W B1 22 v := (hW.block _ hbx.lt).trans hbx
  have c1 := b1.cell
  have ht1 : TRb W b v l0 := ht.kept (hW.block _ hbw) hW.size
  have hB1 := b1.lt
  have hbW : b < W.heap.size := Nat.lt_of_lt_of_le hbw hW.size
  clear hbx ht hW b1
  refine callsIn_of_wp Tryz.func39 rfl trivial ?_ rfl
  simp only [Tryz.ntmps39, List.size_toArray, List.length_cons, List.length_nil, Nat.reduceAdd, Nat.reduceSub, Array.replicate_succ, Array.replicate_zero, List.push_toArray, List.append_toArray, List.nil_append, List.cons_append]
  gi_wp2
  gi_loopw [3, 4] (fun q _ wr => ∃ (pre : List GR) (ls : List Ev), Hid (runsL l0 = valL pre ++ runsL ls) ∧ TRb wr b q ls ∧ Hid (∀ x ∈ ls, evE 65536 x = 0) ∧ ls.length ≤ l0.length ∧ J pre wr ∧ KpR B1 b W wr ∧ W.heap.size ≤ wr.heap.size) (fun q _ _ => lenV q)
  case atStart => exact ⟨[], l0, Lib.hid rfl, ht1, Lib.hid hg, Nat.le_refl _, h0, KpR.refl _, Nat.le_refl _⟩
  case round =>
    clear c1 ht1 hg h0
    obtain ⟨pre, ls, hrun, htr, hgs, hll, hj, hkp, hsw⟩ := hrel
    obtain ⟨p, c, rfl, hc, hx⟩ := htr
    by_cases hz : ls.length = 0
    · have tl : decide ((0 : Int) < ((ls.length : Nat) : Int)) = false := decide_eq_false (by omega)
      have hls : ls = [] := List.eq_nil_of_length_eq_zero hz
      subst hls
      have HR := Lib.hid (show valL pre = runsL l0 by rw [hrun.out, runsL_nil, List.append_nil])
      gi_wp2
      go_end0
      exact ⟨⟨_, rfl⟩, .inl ⟨_, HR.out, hj⟩⟩
    · have tl : decide ((0 : Int) < ((ls.length : Nat) : Int)) = true := decide_eq_true (by omega)
      have htr : TRb wr b (.slice p ls.length c) ls := ⟨p, c, rfl, hc, hx⟩
      obtain ⟨o, c', e, _, hbr, _⟩ := htr.form (by omega)
      cases e
      have FR := Lib.hid ((callsIn_wide (n := n - 1)).2 (firstRun_any _ ls b wr htr (by omega) (by omega) hgs.out))
      have HH := headR_le (l := ls) (by omega)
      have RH := Lib.hid (runsL_head (l := ls) (by omega))
      have hRg0 : (headR ls).good := runs_good hgs.out _ (by rw [RH.out]; simp)
      obtain ⟨R, hR0⟩ : ∃ R, headR ls = R := ⟨_, rfl⟩
      rw [hR0] at FR HH RH hRg0
      have hRg : Hid R.good := Lib.hid hRg0
      clear hRg0
      have HN : Hid (∀ W2, TRb W2 b (.slice (some ⟨b, o, none⟩) ls.length c) ls → R.n < ls.length → TRb W2 b (.slice (some ⟨b, o + R.n * 2, none⟩) (ls.length - R.n) (c - R.n)) (ls.drop R.n)) := Lib.hid (fun W2 h hlt => h.drop hlt)
      have HGD := Lib.hid (good_drop (N := R.n) hgs.out)
      have HLD := List.length_drop (l := ls) (i := R.n)
      have JD := Lib.hid (fun w2 (h : Below wr.heap.size wr w2) => hJ _ wr w2 none hj (grown_of h) (fun r e => by cases e))
      have hlen : pre.length < (runsL l0).length := by rw [hrun.out, RH.out]; simp [valL]
      have HYL := Lib.hid (fun w2 (h : Below wr.heap.size wr w2) => hY pre ⟨R, hRg.out⟩ w2 (JD.out w2 h) hlen)
      have HKB := Lib.hid (fun w2 (h : Below wr.heap.size wr w2) => hkp.trans (KpR.below h (Nat.lt_of_lt_of_le hB1 hsw) (Nat.lt_of_lt_of_le hbW hsw)))
      have HTK := Lib.hid (fun w2 (h : Below wr.heap.size wr w2) => htr.kept (h.block _ hbr) h.size)
      have HRUN := Lib.hid (show runsL l0 = valL (pre ++ [⟨R, hRg.out⟩]) ++ runsL (ls.drop R.n) by rw [hrun.out, RH.out]; simp [valL])
      obtain ⟨L, hL⟩ : ∃ L, ls.length = L := ⟨_, rfl⟩
      rw [hL] at FR HH HN HLD tl hz hll hc HTK ⊢
      clear hx htr hgs hrun RH hR0 hj hkp hlen hY hJ
      obtain ⟨k, a, N⟩ := R
      simp only at HH HN HGD HLD HRUN
      have hNi : (N : Int) ≤ (L : Int) := by omega
      gi_wp2_with (first
        | (gi_at_call 40; refine FR.out.mono ?_; rintro e w2 ⟨rfl, hb2⟩; obtain ⟨fn, tmps, assign, body, hy, hR⟩ := HYL.out (w2.alloc (.cells #[.int .i64 k, .int .i64 a, .int .i64 (N : Int)] 56)) (hb2.alloc hb2.size _); simp only [encG, encR, runV] at hy; simp only [runV])
        | (refine ⟨trivial, ?_⟩; gi_at_call 40; refine FR.out.mono ?_; rintro e w2 ⟨rfl, hb2⟩; obtain ⟨fn, tmps, assign, body, hy, hR⟩ := HYL.out (w2.alloc (.cells #[.int .i64 k, .int .i64 a, .int .i64 (N : Int)] 56)) (hb2.alloc hb2.size _); simp only [encG, encR, runV] at hy; simp only [runV])
        | (refine ⟨trivial, fun _ => by omega, ?_⟩; gi_at_call 40; refine FR.out.mono ?_; rintro e w2 ⟨rfl, hb2⟩; obtain ⟨fn, tmps, assign, body, hy, hR⟩ := HYL.out (w2.alloc (.cells #[.int .i64 k, .int .i64 a, .int .i64 (N : Int)] 56)) (hb2.alloc hb2.size _); simp only [encG, encR, runV] at hy; simp only [runV]))
      refine ⟨fun _ => by omega, ?_⟩
      refine hR.mono ?_
      have HBX := Lib.hid (heap_alloc_new w2 (Obj.cells #[.int .i64 k, .int .i64 a, .int .i64 (N : Int)] 56))
      have HK2 := Lib.hid (HKB.out _ (hb2.alloc hb2.size (.cells #[.int .i64 k, .int .i64 a, .int .i64 (N : Int)] 56)))
      have HT2 := Lib.hid (HTK.out _ (hb2.alloc hb2.size (.cells #[.int .i64 k, .int .i64 a, .int .i64 (N : Int)] 56)))
      have hsz2 := hb2.size
      clear hy hR HYL HKB HTK hb2 FR
      rintro e W3 (⟨rfl, hJ3, hk3⟩ | ⟨rfl, hJx3⟩)
      · have hbox := hk3.1 _ _ HBX.out
        have cN : W3.cell? ⟨w2.heap.size, 2, none⟩ = some (.int .i64 (N : Int)) := by simp [World.cell?, hbox]
        have hs3 : w2.heap.size < W3.heap.size := (Array.getElem?_eq_some_iff.1 hbox).1
        have HK3 := Lib.hid (HK2.out.trans hk3)
        have HT3 := Lib.hid (HT2.out.kept hk3.2.2 (by simp; omega))
        clear hbox hk3 HK2 HT2
        by_cases hcn : c = N
        · have hLN : L = N := by omega
          subst hcn
          subst hLN
          have HD : ls.drop L = [] := List.drop_eq_nil_of_le (by omega)
          gi_wp2
          go_roundw
          case rel => exact ⟨_, ls.drop L, HRUN, by rw [HD]; exact TRb.empty _ _, HGD, by rw [HLD]; omega, hJ3, HK3.out, by omega⟩
          case measure => simp only [lenV]; omega
        · have HTN := Lib.hid (show TRb W3 b (.slice (some ⟨b, o + N * 2, none⟩) (L - N) (c - N)) (ls.drop N) from by
            by_cases hNL : N < L
            · exact HN.out W3 HT3.out hNL
            · have : ls.drop N = [] := List.drop_eq_nil_of_le (by omega)
              rw [this, show L - N = 0 by omega]; exact TRb.empty _ _)
          gi_wp2
          go_roundw
          case rel => exact ⟨_, ls.drop N, HRUN, HTN.out, HGD, by rw [HLD]; omega, hJ3, HK3.out, by omega⟩
          case measure => simp only [lenV]; omega
      · gi_wp2
        refine bodyPost_ret (results_none rfl _ _ _) rfl ?_
        exact ⟨⟨_, rfl⟩, .inr ⟨_, ⟨_, HRUN.out⟩, hJx3⟩⟩
end Go.Proofs.YtihhgnjkmhdpmaaGreatDoor
