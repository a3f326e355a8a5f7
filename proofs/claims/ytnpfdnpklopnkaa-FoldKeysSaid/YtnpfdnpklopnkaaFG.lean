/- Layer 4: tooLong, places; the iterator over the places. -/
import Derived.Test.YtnpfdnpklopnkaaFF
import Derived.Test.YtnpfdnpklopnkaaFT
import Derived.RangeFuncGives
namespace Go.Proofs.Ytnpfdnpklopnkaa
open Go.RowKit Go.Shelf
attribute [local go_sem] Oper.semAt_some
def longB (t s : ByteArray) : Bool := decide (512 < s.size) || decide (4096 < t.size)
theorem tooLong_any (t s : ByteArray) (w : World) (ht : t.size ≤ 1000000000) (hs : s.size ≤ 1000000000) : Calls Try.prog 56 #[.string t, .string s] w fun e w' => e = .returned (.bool (longB t s)) ∧ w = w' := by
  by_cases h : 512 < s.size
  · have hb1 : decide ((512 : Int) < (s.size : Int)) = true := decide_eq_true (by omega)
    have R := Lib.hid (show longB t s = true by unfold longB; simp [h])
    clear h
    go_enter Try.func56, Try.ntmps56
    go_wp2
    go_ret
    exact ⟨ret_bool R.out.symm, rfl⟩
  · have hb1 : decide ((512 : Int) < (s.size : Int)) = false := decide_eq_false (by omega)
    have R := Lib.hid (show longB t s = decide ((4096 : Int) < (t.size : Int)) by unfold longB; rw [Bool.eq_iff_iff]; simp; omega)
    clear h
    go_enter Try.func56, Try.ntmps56
    go_wp2
    go_ret
    exact ⟨ret_bool R.out.symm, rfl⟩
theorem places_any (t s : ByteArray) (w : World) : Calls Try.prog 57 #[.string t, .string s] w fun e w' => e = .returned (.func (.func 69) #[] #[.pointer (some ⟨w.heap.size, 0, none⟩), .pointer (some ⟨w.heap.size + 1, 0, none⟩)]) ∧ w' = (w.alloc (.cells #[.string t] 9)).alloc (.cells #[.string s] 9) := by
  go_enter Try.func57, Try.ntmps57
  go_wp2
  go_ret
  exact ⟨rfl, rfl⟩
/-- Does a part alike to s begin at place i? -/
def atB (t s : ByteArray) (i : Nat) : Bool := alikeL ((t.data.toList.drop i).take s.size) s.data.toList
def placesL (t s : ByteArray) : List Nat := (List.range (t.size + 1 - s.size)).filter (atB t s)
def encN (x : Nat) : Array Value := #[.int .i64 (x : Int)]
def KpS (B1 B2 : Nat) (W W' : World) : Prop := W'.heap[B1]? = W.heap[B1]? ∧ W'.heap[B2]? = W.heap[B2]?
theorem KpS.trans {B1 B2 : Nat} {A B C : World} (h : KpS B1 B2 A B) (k : KpS B1 B2 B C) : KpS B1 B2 A C := ⟨k.1.trans h.1, k.2.trans h.2⟩
theorem KpS.below {B1 B2 : Nat} {W W' : World} (h : Below W.heap.size W W') (h1 : B1 < W.heap.size) (h2 : B2 < W.heap.size) : KpS B1 B2 W W' := ⟨h.block _ h1, h.block _ h2⟩
theorem filter_lt {p : Nat → Bool} {k n : Nat} (hk : k < n) (hp : p k = true) : ∃ rest, (List.range n).filter p = (List.range k).filter p ++ k :: rest := by
  obtain ⟨d, rfl⟩ : ∃ d, n = k + (d + 1) := ⟨n - (k + 1), by omega⟩
  refine ⟨((List.range d).map (k + 1 + ·)).filter p, ?_⟩
  rw [List.range_add, List.filter_append, List.range_succ_eq_map, List.map_cons, List.filter_cons, Nat.add_zero, hp, if_pos rfl, List.map_map]
  congr 3
  apply List.map_congr_left
  intro a _
  simp; omega
set_option maxRecDepth 100000 in
theorem places_iter {n B1 B2 : Nat} {w : World} {t s : ByteArray} (hn : 2 ≤ n) (ht : t.size ≤ 1000000000) (hs : s.size ≤ 1000000000) (h1 : Boxed w B1 9 (.string t)) (h2 : Boxed w B2 9 (.string s)) :
    SeqStopsK Fence.wide n Try.prog 69 #[.pointer (some ⟨B1, 0, none⟩), .pointer (some ⟨B2, 0, none⟩)] encN (KpS B1 B2) (fun ys => ys = placesL t s) (fun pre => ∃ rest, placesL t s = pre ++ rest) (placesL t s).length w := by
  intro l J Jx W hW hJ hJx hY h0
  have b1 : Boxed W B1 9 (.string t) := (hW.block _ h1.lt).trans h1
  have b2 : Boxed W B2 9 (.string s) := (hW.block _ h2.lt).trans h2
  have c1 := b1.cell
  have c2 := b2.cell
  have HB := Lib.hid (And.intro b1 b2)
  clear h1 h2 hW b1 b2
  refine callsIn_of_wp Try.func69 rfl trivial ?_ rfl
  simp only [Try.ntmps69, List.size_toArray, List.length_cons, List.length_nil, Nat.reduceAdd, Nat.reduceSub, Array.replicate_succ, Array.replicate_zero, List.push_toArray, List.append_toArray, List.nil_append, List.cons_append]
  by_cases hle : s.size ≤ t.size
  · obtain ⟨m, hm⟩ : ∃ m, m = t.size + 1 - s.size := ⟨_, rfl⟩
    have hw1 : IntKind.i64.wrap ((t.size : Int) - (s.size : Int)) = ((t.size - s.size : Nat) : Int) := by rw [IntWalk.i64_in _ (by omega)]; omega
    have hw2 : IntKind.i64.wrap (((t.size - s.size : Nat) : Int) + 1) = (m : Int) := by rw [IntWalk.i64_in _ (by omega)]; omega
    have HP := Lib.hid (show placesL t s = (List.range m).filter (atB t s) by rw [hm]; rfl)
    have hm1 : m ≤ 1000000001 := by omega
    have hm2 : m + s.size = t.size + 1 := by omega
    clear hm
    gi_wp2
    clear hw1 hw2
    gi_loopw [4, 11] (fun _ i wr => ∃ k : Nat, k ≤ m ∧ i = .int .i64 (k : Int) ∧ J ((List.range k).filter (atB t s)) wr ∧ KpS B1 B2 W wr) (fun _ i _ => m - (intOf i).toNat)
    case atStart => exact ⟨0, Nat.zero_le _, rfl, h0, rfl, rfl⟩
    case round =>
      obtain ⟨k, hk, rfl, hj, hkp⟩ := hrel
      by_cases hlt : k < m
      · have hltb : decide ((k : Int) < (m : Int)) = true := decide_eq_true (by omega)
        have g1 : Boxed wr B1 9 (.string t) := hkp.1.trans HB.out.1
        have g2 : Boxed wr B2 9 (.string s) := hkp.2.trans HB.out.2
        have hw3 : IntKind.i64.wrap ((k : Int) + (s.size : Int)) = (k : Int) + (s.size : Int) := by rw [IntWalk.i64_in _ (by omega)]
        have hs0 : 0 ≤ (k : Int) + (s.size : Int) ∧ (k : Int) + (s.size : Int) ≤ (t.size : Int) := by omega
        have hs1 : (k : Int) ≤ (k : Int) + (s.size : Int) := by omega
        have hs2 : ((k : Int) + (s.size : Int)).toNat = k + s.size := by omega
        have hsd : (t.extract k (k + s.size)).data.toList = (t.data.toList.drop k).take s.size := by rw [Lib.extract_data, Nat.add_sub_cancel_left]
        have hsz : (t.extract k (k + s.size)).size ≤ 1000000000 := by
          have : (t.extract k (k + s.size)).data.toList.length = _ := congrArg List.length hsd
          rw [length_data, List.length_take] at this; omega
        have AL := fun w9 (hw9 : Below wr.heap.size wr w9) => (callsIn_wide (n := n - 1)).2 ((alike_any (t.extract k (k + s.size)) s w9 (by unfold maxLen; omega) (by unfold maxLen; omega)).mono (R' := fun e w'' => e = .returned (.bool (atB t s k)) ∧ Below wr.heap.size wr w'') fun e w'' h => ⟨by rw [h.1, hsd]; rfl, hw9.trans (h.2.mono hw9.size)⟩)
        have HL := Lib.hid (hlt : k < m)
        clear hsz hsd
        have KP := Lib.hid (fun w2 (h : Below wr.heap.size wr w2) => KpS.trans hkp (KpS.below h g1.lt g2.lt))
        have JD := Lib.hid (fun w2 (h : Below wr.heap.size wr w2) => hJ _ wr w2 none hj (grown_of h) (fun r e => by cases e))
        rcases hb : atB t s k with _ | _
        · rw [hb] at AL
          replace AL := Lib.hid AL
          have HF := Lib.hid (upto_no hb)
          clear hb
          gi_wp2
          refine wpIn_region_below_tail 12 (Nat.le_refl _) rfl (by kernel_rfl) (by kernel_rfl) ?_
          simp only [List.take_succ_cons, List.take_zero, List.drop_succ_cons, List.drop_zero]
          repeat (refine wpQuietIn_read rfl (fun _ => rfl) ?_; apply Exists.intro; refine ⟨fun w9 hw9 => ?_, ?_⟩; (focus (have c1 := Boxed.cell ((hw9.block _ g1.lt).trans g1); have c2 := Boxed.cell ((hw9.block _ g2.lt).trans g2); go_simp; ((try simp only [hw3]); (try rw [if_pos hs0, if_pos hs1, hs2])); (try rfl); done)); simp only [Act.put, List.setIfInBounds_toArray, List.set_cons_succ, List.set_cons_zero])
          refine wpQuietIn_call 26 #[.string (t.extract k (k + s.size)), .string s] (.bool false) rfl (fun _ => trivial) (fun w9 hw9 => by go_simp) (fun h => by cases h) (fun w9 hw9 => AL.out w9 hw9) ?_
          simp only [Act.put, List.setIfInBounds_toArray, List.set_cons_succ, List.set_cons_zero]
          repeat (refine wpQuietIn_read rfl (fun _ => rfl) ?_; apply Exists.intro; refine ⟨fun w9 hw9 => ?_, ?_⟩; (focus (skip; go_simp; skip; (try rfl); done)); simp only [Act.put, List.setIfInBounds_toArray, List.set_cons_succ, List.set_cons_zero])
          repeat (refine wpQuietIn_pass rfl (fun _ => rfl) ?_; simp only [Act.put, List.setIfInBounds_toArray, List.set_cons_succ, List.set_cons_zero])
          refine wpQuietIn_nil ?_
          intro w2 hb2
          refine wpListIn_skip rfl (by first | rfl | kernel_rfl) ?_
          simp only [Act.put, List.setIfInBounds_toArray, List.set_cons_succ, List.set_cons_zero]
          gi_wp2
          go_roundw
          case rel => exact ⟨k + 1, by omega, by go_num, by rw [HF.out]; exact JD.out _ hb2, KP.out _ hb2⟩
          case measure => simp [intOf]; omega
        · rw [hb] at AL
          replace AL := Lib.hid AL
          have HF := Lib.hid (upto_yes hb)
          obtain ⟨rest, hrest⟩ := filter_lt hlt hb
          have HY := Lib.hid (fun w2 (h : Below wr.heap.size wr w2) => hY _ k w2 (JD.out w2 h) (by rw [HP.out, hrest]; simp))
          have HR := Lib.hid hrest
          clear hb hY hrest
          gi_wp2
          refine wpIn_region_below_tail 12 (Nat.le_refl _) rfl (by kernel_rfl) (by kernel_rfl) ?_
          simp only [List.take_succ_cons, List.take_zero, List.drop_succ_cons, List.drop_zero]
          repeat (refine wpQuietIn_read rfl (fun _ => rfl) ?_; apply Exists.intro; refine ⟨fun w9 hw9 => ?_, ?_⟩; (focus (have c1 := Boxed.cell ((hw9.block _ g1.lt).trans g1); have c2 := Boxed.cell ((hw9.block _ g2.lt).trans g2); go_simp; ((try simp only [hw3]); (try rw [if_pos hs0, if_pos hs1, hs2])); (try rfl); done)); simp only [Act.put, List.setIfInBounds_toArray, List.set_cons_succ, List.set_cons_zero])
          refine wpQuietIn_call 26 #[.string (t.extract k (k + s.size)), .string s] (.bool true) rfl (fun _ => trivial) (fun w9 hw9 => by go_simp) (fun h => by cases h) (fun w9 hw9 => AL.out w9 hw9) ?_
          simp only [Act.put, List.setIfInBounds_toArray, List.set_cons_succ, List.set_cons_zero]
          repeat (refine wpQuietIn_read rfl (fun _ => rfl) ?_; apply Exists.intro; refine ⟨fun w9 hw9 => ?_, ?_⟩; (focus (skip; go_simp; skip; (try rfl); done)); simp only [Act.put, List.setIfInBounds_toArray, List.set_cons_succ, List.set_cons_zero])
          repeat (refine wpQuietIn_pass rfl (fun _ => rfl) ?_; simp only [Act.put, List.setIfInBounds_toArray, List.set_cons_succ, List.set_cons_zero])
          refine wpQuietIn_nil ?_
          intro w2 hb2
          obtain ⟨fn, tmps, assign, body, hy, hR⟩ := HY.out w2 hb2
          simp only [encN] at hy
          gi_wp2
          refine ⟨fun _ => by omega, ?_⟩
          refine hR.mono ?_
          rintro e W3 (⟨rfl, hJ3, hk3⟩ | ⟨rfl, hJx3⟩)
          · gi_wp2
            go_roundw
            case rel => exact ⟨k + 1, by omega, by go_num, by rw [HF.out]; exact hJ3, (KP.out _ hb2).trans hk3⟩
            case measure => simp [intOf]; omega
          · gi_wp2
            refine bodyPost_ret (results_none rfl _ _ _) rfl ?_
            exact ⟨⟨_, rfl⟩, .inr ⟨_, ⟨rest, by rw [HP.out, HR.out]; simp⟩, hJx3⟩⟩
      · obtain rfl : k = m := by omega
        have hltb : decide ((k : Int) < (k : Int)) = false := decide_eq_false (by omega)
        gi_wp2
        go_end0
        exact ⟨⟨_, rfl⟩, .inl ⟨_, HP.out.symm, hj⟩⟩
  · have hw1 : IntKind.i64.wrap ((t.size : Int) - (s.size : Int)) = (t.size : Int) - (s.size : Int) := by rw [IntWalk.i64_in _ (by omega)]
    have hw2 : IntKind.i64.wrap ((t.size : Int) - (s.size : Int) + 1) = (t.size : Int) - (s.size : Int) + 1 := by rw [IntWalk.i64_in _ (by omega)]
    have HP := Lib.hid (show placesL t s = [] by unfold placesL; rw [show t.size + 1 - s.size = 0 by omega]; rfl)
    obtain ⟨z, hz⟩ : ∃ z : Int, z = (t.size : Int) - (s.size : Int) + 1 := ⟨_, rfl⟩
    rw [← hz] at hw2
    have hz0 : z ≤ 0 := by omega
    clear hz
    gi_wp2
    gi_loopw [4, 11] (fun _ i wr => i = .int .i64 0 ∧ J [] wr) (fun _ i _ => 0)
    case atStart => exact ⟨rfl, h0⟩
    case round =>
      obtain ⟨rfl, hj⟩ := hrel
      have hltb : decide ((0 : Int) < z) = false := decide_eq_false (by omega)
      gi_wp2
      go_end0
      exact ⟨⟨_, rfl⟩, .inl ⟨_, HP.out.symm, hj⟩⟩
end Go.Proofs.Ytnpfdnpklopnkaa
