/- Layer 2: the law on sets of bits, walked. -/
import Derived.Test.YtnegnmjjibhldaaT
namespace Go.Proofs.Ytnegnmjjibhldaa
open Go.RowKit
def cnt (n : Nat) (f : Nat → Bool) : Nat := ((List.range (64 * n)).filter f).length
theorem cnt_le (n : Nat) (f : Nat → Bool) : cnt n f ≤ 64 * n := by
  unfold cnt
  have := List.length_filter_le f (List.range (64 * n))
  simpa using this
theorem cnt_congr {n : Nat} {f g : Nat → Bool} (h : ∀ i, i < 64 * n → f i = g i) : cnt n f = cnt n g := by
  unfold cnt
  rw [List.filter_congr fun i hi => h i (List.mem_range.1 hi)]
theorem cnt_row (n : Nat) (f : Nat → Bool) : cnt n (rbit (mkRow n f)) = cnt n f := cnt_congr fun i hi => mkRow_bit n f i hi
theorem cnt_sum (l : List Nat) (f g : Nat → Bool) : (l.filter f).length + (l.filter g).length = (l.filter fun i => f i && g i).length + (l.filter fun i => f i || g i).length := by
  induction l with
  | nil => rfl
  | cons a l ih =>
    rcases hf : f a with _ | _ <;> rcases hg : g a with _ | _ <;> simp [hf, hg] <;> omega
theorem cnt_none (n : Nat) (f : Nat → Bool) (h : ∀ i, f i = false) : cnt n f = 0 := by
  unfold cnt; rw [List.filter_eq_nil_iff.2 (fun i _ => by simp [h i])]; rfl
theorem cnt_all (n : Nat) (f : Nat → Bool) (h : ∀ i, f i = true) : cnt n f = 64 * n := by
  unfold cnt; rw [List.filter_eq_self.2 (fun i _ => h i)]; simp
theorem and_ok {xs ys zs : List Nat} (v u : Value) (w : World) (hv : URow w v xs) (hu : URow w u ys) (hw : Wf xs) (hwy : Wf ys) (hc : chk xs.length = 0) (hl : ys.length = xs.length) (hz : mkRow xs.length (fun i => rbit xs i && rbit ys i) = zs) :
    Calls Try.prog 30 #[v, u] w fun e w' => ∃ r, e = .returned (.tuple #[r, .int .i64 0]) ∧ URow w' r zs ∧ Below w.heap.size w w' := by
  have E : pairE xs.length ys.length = 0 := by unfold pairE; rw [hl, if_pos hc, if_pos hc, if_pos rfl]
  refine (and_any v u xs ys w hv hu hw hwy).mono ?_
  rintro e w' ⟨r, rfl, hr, hb⟩
  refine ⟨r, by rw [E], ?_, hb⟩
  unfold andR at hr
  rwa [if_pos E, hz] at hr
theorem or_ok {xs ys zs : List Nat} (v u : Value) (w : World) (hv : URow w v xs) (hu : URow w u ys) (hw : Wf xs) (hwy : Wf ys) (hc : chk xs.length = 0) (hl : ys.length = xs.length) (hz : mkRow xs.length (fun i => rbit xs i || rbit ys i) = zs) :
    Calls Try.prog 32 #[v, u] w fun e w' => ∃ r, e = .returned (.tuple #[r, .int .i64 0]) ∧ URow w' r zs ∧ Below w.heap.size w w' := by
  have E : pairE xs.length ys.length = 0 := by unfold pairE; rw [hl, if_pos hc, if_pos hc, if_pos rfl]
  refine (or_any v u xs ys w hv hu hw hwy).mono ?_
  rintro e w' ⟨r, rfl, hr, hb⟩
  refine ⟨r, by rw [E], ?_, hb⟩
  unfold orR at hr
  rwa [if_pos E, hz] at hr
theorem not_ok {xs zs : List Nat} (v : Value) (w : World) (hv : URow w v xs) (hw : Wf xs) (hc : chk xs.length = 0) (hz : mkRow xs.length (fun i => !rbit xs i) = zs) :
    Calls Try.prog 34 #[v] w fun e w' => ∃ r, e = .returned (.tuple #[r, .int .i64 0]) ∧ URow w' r zs ∧ Below w.heap.size w w' := by
  refine (not_any v xs w hv hw).mono ?_
  rintro e w' ⟨r, rfl, hr, hb⟩
  refine ⟨r, by rw [hc], ?_, hb⟩
  unfold notR at hr
  rwa [if_pos hc, hz] at hr
theorem count_ok {xs : List Nat} {n c : Nat} (v : Value) (w : World) (hv : URow w v xs) (hw : Wf xs) (hc : chk xs.length = 0) (hn : xs.length = n) (hk : cnt n (rbit xs) = c) :
    Calls Try.prog 19 #[v] w fun e w' => e = .returned (.tuple #[.int .i64 (c : Int), .int .i64 0]) ∧ Below w.heap.size w w' := by
  refine (count_any v xs w hv hw).mono ?_
  rintro e w' ⟨rfl, hb⟩
  refine ⟨?_, hb⟩
  rw [hc, ← hk, ← hn]
  unfold onesR onesZ cnt
  rw [if_pos hc, List.length_map]
set_option maxHeartbeats 800000 in
set_option maxRecDepth 100000 in
theorem laws_any (v u : Value) (xs ys : List Nat) (w : World) (hv : URow w v xs) (hu : URow w u ys) (hw : Wf xs) (hwy : Wf ys) : Calls Try.prog 9 #[v, u] w fun e w' => e = .returned (.bool true) ∧ Below w.heap.size w w' := by
  have FA := Lib.hid (far_any v xs w hv)
  have FB := Lib.hid (far_any u ys w hu)
  have AW := Lib.hid (fun w' => awake_any w')
  by_cases h20 : 20 < xs.length
  · rw [decide_eq_true h20] at FA
    clear h20
    go_enter Try.func9, Try.ntmps9
    go_wp2_with (first
      | (go_at_call 10; refine FA.out.mono ?_; rintro e w1 ⟨rfl, rfl⟩)
      | (go_at_call 11; refine (AW.out _).mono ?_; rintro e w2 ⟨rfl, hb⟩))
    go_ret
    exact ⟨rfl, hb⟩
  rw [decide_eq_false h20] at FA
  by_cases h21 : 20 < ys.length
  · rw [decide_eq_true h21] at FB
    clear h20 h21
    go_enter Try.func9, Try.ntmps9
    go_wp2_with (first
      | (go_at_call 10; first
        | ((with_reducible refine FA.out.mono ?_); rintro e w1 ⟨rfl, rfl⟩)
        | ((with_reducible refine FB.out.mono ?_); rintro e w1 ⟨rfl, rfl⟩))
      | (go_at_call 11; refine (AW.out _).mono ?_; rintro e w2 ⟨rfl, hb⟩))
    go_ret
    exact ⟨rfl, hb⟩
  rw [decide_eq_false h21] at FB
  have hb := Below.refl w.heap.size w
  by_cases hE : pairE xs.length ys.length = 0
  · obtain ⟨h01, hl⟩ := pairE_zero hE
    have hc : chk xs.length = 0 := by unfold pairE at hE; by_cases h : chk xs.length = 0; exact h; rw [if_neg h] at hE; exact absurd hE h
    obtain ⟨n, hn⟩ : ∃ n, xs.length = n := ⟨_, rfl⟩
    have hm : ys.length = n := hl.symm.trans hn
    have hcn : chk n = 0 := by rw [← hn]; exact hc
    obtain ⟨f, hf⟩ : ∃ f, f = rbit xs := ⟨_, rfl⟩
    obtain ⟨g, hg⟩ : ∃ g, g = rbit ys := ⟨_, rfl⟩
    have lenM : ∀ h, (mkRow n h).length = n := fun h => mkRow_len n h
    have K1 := Lib.hid (fun w' v u (h1 : URow w' v xs) (h2 : URow w' u ys) => and_ok (zs := mkRow n (fun i => f i && g i)) v u w' h1 h2 hw hwy (by rw [hn]; exact hcn) (by rw [hn, hm]) (by rw [hn, hf, hg]))
    have K2 := Lib.hid (fun w' v u (h1 : URow w' v xs) (h2 : URow w' u ys) => or_ok (zs := mkRow n (fun i => f i || g i)) v u w' h1 h2 hw hwy (by rw [hn]; exact hcn) (by rw [hn, hm]) (by rw [hn, hf, hg]))
    have K3 := Lib.hid (fun w' v (h1 : URow w' v xs) => not_ok (zs := mkRow n (fun i => !f i)) v w' h1 hw (by rw [hn]; exact hcn) (by rw [hn, hf]))
    have K4 := Lib.hid (fun w' v (h1 : URow w' v ys) => not_ok (zs := mkRow n (fun i => !g i)) v w' h1 hwy (by rw [hm]; exact hcn) (by rw [hm, hg]))
    have K5 := Lib.hid (fun w' v (h1 : URow w' v (mkRow n (fun i => f i && g i))) => not_ok (zs := mkRow n (fun i => !f i || !g i)) v w' h1 (mkRow_wf _ _) (by rw [lenM]; exact hcn) (by rw [lenM]; exact mkRow_congr fun i hi => by rw [mkRow_bit _ _ _ hi]; cases f i <;> rfl))
    have K6 := Lib.hid (fun w' v u (h1 : URow w' v (mkRow n (fun i => !f i))) (h2 : URow w' u (mkRow n (fun i => !g i))) => or_ok (zs := mkRow n (fun i => !f i || !g i)) v u w' h1 h2 (mkRow_wf _ _) (mkRow_wf _ _) (by rw [lenM]; exact hcn) (by rw [lenM, lenM]) (by rw [lenM]; exact mkRow_congr fun i hi => by rw [mkRow_bit _ _ _ hi, mkRow_bit _ _ _ hi]))
    have K7 := Lib.hid (fun w' v u (h1 : URow w' v xs) (h2 : URow w' u (mkRow n (fun i => !f i))) => and_ok (zs := mkRow n (fun _ => false)) v u w' h1 h2 hw (mkRow_wf _ _) (by rw [hn]; exact hcn) (by rw [hn, lenM]) (by rw [hn]; exact mkRow_congr fun i hi => by rw [mkRow_bit _ _ _ hi, hf]; simp))
    have K8 := Lib.hid (fun w' v u (h1 : URow w' v xs) (h2 : URow w' u (mkRow n (fun i => !f i))) => or_ok (zs := mkRow n (fun _ => true)) v u w' h1 h2 hw (mkRow_wf _ _) (by rw [hn]; exact hcn) (by rw [hn, lenM]) (by rw [hn]; exact mkRow_congr fun i hi => by rw [mkRow_bit _ _ _ hi, hf]; simp))
    have C1 := Lib.hid (fun w' v (h1 : URow w' v (mkRow n (fun _ => false))) => count_ok (n := n) (c := 0) v w' h1 (mkRow_wf _ _) (by rw [lenM]; exact hcn) (lenM _) (by rw [cnt_row, cnt_none _ _ (fun _ => rfl)]))
    have C2 := Lib.hid (fun w' v (h1 : URow w' v (mkRow n (fun _ => true))) => count_ok (n := n) (c := 64 * n) v w' h1 (mkRow_wf _ _) (by rw [lenM]; exact hcn) (lenM _) (by rw [cnt_row, cnt_all _ _ (fun _ => rfl)]))
    have C3 := Lib.hid (fun w' v (h1 : URow w' v xs) => count_ok (n := n) (c := cnt n f) v w' h1 hw (by rw [hn]; exact hcn) hn (by rw [hf]))
    have C4 := Lib.hid (fun w' v (h1 : URow w' v ys) => count_ok (n := n) (c := cnt n g) v w' h1 hwy (by rw [hm]; exact hcn) hm (by rw [hg]))
    have C5 := Lib.hid (fun w' v (h1 : URow w' v (mkRow n (fun i => f i && g i))) => count_ok (n := n) (c := cnt n (fun i => f i && g i)) v w' h1 (mkRow_wf _ _) (by rw [lenM]; exact hcn) (lenM _) (cnt_row _ _))
    have C6 := Lib.hid (fun w' v (h1 : URow w' v (mkRow n (fun i => f i || g i))) => count_ok (n := n) (c := cnt n (fun i => f i || g i)) v w' h1 (mkRow_wf _ _) (by rw [lenM]; exact hcn) (lenM _) (cnt_row _ _))
    have hs : cnt n f + cnt n g = cnt n (fun i => f i && g i) + cnt n (fun i => f i || g i) := cnt_sum _ f g
    have b1 := cnt_le n f
    have b2 := cnt_le n g
    have b3 := cnt_le n (fun i => f i && g i)
    have b4 := cnt_le n (fun i => f i || g i)
    have hl5 : (mkRow n (fun i => !f i || !g i)).length ≤ 1000000 := by rw [lenM]; omega
    generalize mkRow n (fun i => !f i || !g i) = L5 at *
    generalize mkRow n (fun i => f i && g i) = L1 at *
    generalize mkRow n (fun i => f i || g i) = L2 at *
    generalize mkRow n (fun i => !f i) = L3 at *
    generalize mkRow n (fun i => !g i) = L4 at *
    generalize mkRow n (fun _ => false) = L6 at *
    generalize mkRow n (fun _ => true) = L7 at *
    generalize cnt n f = c1 at *
    generalize cnt n g = c2 at *
    generalize cnt n (fun i => f i && g i) = c3 at *
    generalize cnt n (fun i => f i || g i) = c4 at *
    have heq : ((c1 : Int) + (c2 : Int) == (c3 : Int) + (c4 : Int)) = true := by rw [beq_iff_eq]; omega
    have hn8 : n ≤ 8 := by omega
    have SM := Lib.hid (fun w' a b (h1 : URow w' a L5) (h2 : URow w' b L5) => same_yes a b L5 w' h1 h2 hl5)
    have rv := hv
    have ru := hu
    obtain ⟨p, c, rfl, _, _⟩ := hv
    obtain ⟨p2, c', rfl, _, _⟩ := hu
    rw [hm] at FB ru ⊢
    rw [hn] at FA rv ⊢
    clear h20 h21 hE h01 hl hc hn hm hcn hf hg lenM hs hw hwy hl5
    go_enter Try.func9, Try.ntmps9
    go_wp2_with (first
      | (go_at_call 10; first
        | ((with_reducible refine FA.out.mono ?_); rintro e w1 ⟨rfl, rfl⟩)
        | ((with_reducible refine FB.out.mono ?_); rintro e w1 ⟨rfl, rfl⟩))
      | (go_at_call 30; first
        | ((with_reducible refine (K1.out _ _ _ rv ru).mono ?_); rintro e w1 ⟨a1, rfl, r1, hb2⟩; have hb := hb.trans (hb2.mono hb.size); (try have rv := rv.below hb2); (try have ru := ru.below hb2); (try have r2 := r2.below hb2); (try have r3 := r3.below hb2); (try have r4 := r4.below hb2); (try have r5 := r5.below hb2); (try have r6 := r6.below hb2); (try have r7 := r7.below hb2); (try have r8 := r8.below hb2))
        | ((with_reducible refine (K7.out _ _ _ rv r3).mono ?_); rintro e w1 ⟨a7, rfl, r7, hb2⟩; have hb := hb.trans (hb2.mono hb.size); (try have rv := rv.below hb2); (try have ru := ru.below hb2); (try have r1 := r1.below hb2); (try have r2 := r2.below hb2); (try have r3 := r3.below hb2); (try have r4 := r4.below hb2); (try have r5 := r5.below hb2); (try have r6 := r6.below hb2); (try have r8 := r8.below hb2)))
      | (go_at_call 32; first
        | ((with_reducible refine (K2.out _ _ _ rv ru).mono ?_); rintro e w1 ⟨a2, rfl, r2, hb2⟩; have hb := hb.trans (hb2.mono hb.size); (try have rv := rv.below hb2); (try have ru := ru.below hb2); (try have r1 := r1.below hb2); (try have r3 := r3.below hb2); (try have r4 := r4.below hb2); (try have r5 := r5.below hb2); (try have r6 := r6.below hb2); (try have r7 := r7.below hb2); (try have r8 := r8.below hb2))
        | ((with_reducible refine (K6.out _ _ _ r3 r4).mono ?_); rintro e w1 ⟨a6, rfl, r6, hb2⟩; have hb := hb.trans (hb2.mono hb.size); (try have rv := rv.below hb2); (try have ru := ru.below hb2); (try have r1 := r1.below hb2); (try have r2 := r2.below hb2); (try have r3 := r3.below hb2); (try have r4 := r4.below hb2); (try have r5 := r5.below hb2); (try have r7 := r7.below hb2); (try have r8 := r8.below hb2))
        | ((with_reducible refine (K8.out _ _ _ rv r3).mono ?_); rintro e w1 ⟨a8, rfl, r8, hb2⟩; have hb := hb.trans (hb2.mono hb.size); (try have rv := rv.below hb2); (try have ru := ru.below hb2); (try have r1 := r1.below hb2); (try have r2 := r2.below hb2); (try have r3 := r3.below hb2); (try have r4 := r4.below hb2); (try have r5 := r5.below hb2); (try have r6 := r6.below hb2); (try have r7 := r7.below hb2)))
      | (go_at_call 34; first
        | ((with_reducible refine (K3.out _ _ rv).mono ?_); rintro e w1 ⟨a3, rfl, r3, hb2⟩; have hb := hb.trans (hb2.mono hb.size); (try have rv := rv.below hb2); (try have ru := ru.below hb2); (try have r1 := r1.below hb2); (try have r2 := r2.below hb2); (try have r4 := r4.below hb2); (try have r5 := r5.below hb2); (try have r6 := r6.below hb2); (try have r7 := r7.below hb2); (try have r8 := r8.below hb2))
        | ((with_reducible refine (K4.out _ _ ru).mono ?_); rintro e w1 ⟨a4, rfl, r4, hb2⟩; have hb := hb.trans (hb2.mono hb.size); (try have rv := rv.below hb2); (try have ru := ru.below hb2); (try have r1 := r1.below hb2); (try have r2 := r2.below hb2); (try have r3 := r3.below hb2); (try have r5 := r5.below hb2); (try have r6 := r6.below hb2); (try have r7 := r7.below hb2); (try have r8 := r8.below hb2))
        | ((with_reducible refine (K5.out _ _ r1).mono ?_); rintro e w1 ⟨a5, rfl, r5, hb2⟩; have hb := hb.trans (hb2.mono hb.size); (try have rv := rv.below hb2); (try have ru := ru.below hb2); (try have r1 := r1.below hb2); (try have r2 := r2.below hb2); (try have r3 := r3.below hb2); (try have r4 := r4.below hb2); (try have r6 := r6.below hb2); (try have r7 := r7.below hb2); (try have r8 := r8.below hb2)))
      | (go_at_call 19; first
        | ((with_reducible refine (C1.out _ _ r7).mono ?_); rintro e w1 ⟨rfl, hb2⟩; have hb := hb.trans (hb2.mono hb.size); (try have rv := rv.below hb2); (try have ru := ru.below hb2); (try have r1 := r1.below hb2); (try have r2 := r2.below hb2); (try have r3 := r3.below hb2); (try have r4 := r4.below hb2); (try have r5 := r5.below hb2); (try have r6 := r6.below hb2); (try have r7 := r7.below hb2); (try have r8 := r8.below hb2))
        | ((with_reducible refine (C2.out _ _ r8).mono ?_); rintro e w1 ⟨rfl, hb2⟩; have hb := hb.trans (hb2.mono hb.size); (try have rv := rv.below hb2); (try have ru := ru.below hb2); (try have r1 := r1.below hb2); (try have r2 := r2.below hb2); (try have r3 := r3.below hb2); (try have r4 := r4.below hb2); (try have r5 := r5.below hb2); (try have r6 := r6.below hb2); (try have r7 := r7.below hb2); (try have r8 := r8.below hb2))
        | ((with_reducible refine (C3.out _ _ rv).mono ?_); rintro e w1 ⟨rfl, hb2⟩; have hb := hb.trans (hb2.mono hb.size); (try have rv := rv.below hb2); (try have ru := ru.below hb2); (try have r1 := r1.below hb2); (try have r2 := r2.below hb2); (try have r3 := r3.below hb2); (try have r4 := r4.below hb2); (try have r5 := r5.below hb2); (try have r6 := r6.below hb2); (try have r7 := r7.below hb2); (try have r8 := r8.below hb2))
        | ((with_reducible refine (C4.out _ _ ru).mono ?_); rintro e w1 ⟨rfl, hb2⟩; have hb := hb.trans (hb2.mono hb.size); (try have rv := rv.below hb2); (try have ru := ru.below hb2); (try have r1 := r1.below hb2); (try have r2 := r2.below hb2); (try have r3 := r3.below hb2); (try have r4 := r4.below hb2); (try have r5 := r5.below hb2); (try have r6 := r6.below hb2); (try have r7 := r7.below hb2); (try have r8 := r8.below hb2))
        | ((with_reducible refine (C5.out _ _ r1).mono ?_); rintro e w1 ⟨rfl, hb2⟩; have hb := hb.trans (hb2.mono hb.size); (try have rv := rv.below hb2); (try have ru := ru.below hb2); (try have r1 := r1.below hb2); (try have r2 := r2.below hb2); (try have r3 := r3.below hb2); (try have r4 := r4.below hb2); (try have r5 := r5.below hb2); (try have r6 := r6.below hb2); (try have r7 := r7.below hb2); (try have r8 := r8.below hb2))
        | ((with_reducible refine (C6.out _ _ r2).mono ?_); rintro e w1 ⟨rfl, hb2⟩; have hb := hb.trans (hb2.mono hb.size); (try have rv := rv.below hb2); (try have ru := ru.below hb2); (try have r1 := r1.below hb2); (try have r2 := r2.below hb2); (try have r3 := r3.below hb2); (try have r4 := r4.below hb2); (try have r5 := r5.below hb2); (try have r6 := r6.below hb2); (try have r7 := r7.below hb2); (try have r8 := r8.below hb2)))
      | (go_at_call 18; refine (SM.out _ _ _ r5 r6).mono ?_; rintro e w5 ⟨rfl, hb2⟩; have hb := hb.trans (hb2.mono hb.size); (try have rv := rv.below hb2); (try have ru := ru.below hb2); (try have r1 := r1.below hb2); (try have r2 := r2.below hb2); (try have r3 := r3.below hb2); (try have r4 := r4.below hb2); (try have r5 := r5.below hb2); (try have r6 := r6.below hb2))
      | (go_at_call 11; refine (AW.out _).mono ?_; rintro e w6 ⟨rfl, hb2⟩; have hb := hb.trans (hb2.mono hb.size)))
    go_ret
    exact ⟨rfl, hb⟩
  · have S1 := Lib.hid (fun w' (h : Below w.heap.size w w') => and_any v u xs ys w' (hv.below h) (hu.below h) hw hwy)
    have B1 := Lib.hid (fun w' (h : Below w.heap.size w w') => or_any v u xs ys w' (hv.below h) (hu.below h) hw hwy)
    rw [show andR xs ys = [] by unfold andR; rw [if_neg hE]] at S1
    rw [show orR xs ys = [] by unfold orR; rw [if_neg hE]] at B1
    have hne : (pairE xs.length ys.length != 0) = true := by simp [hE]
    generalize pairE xs.length ys.length = E at *
    clear h20 h21 hE hv hu hw hwy
    go_enter Try.func9, Try.ntmps9
    go_wp2_with (first
      | (go_at_call 10; first
        | ((with_reducible refine FA.out.mono ?_); rintro e w1 ⟨rfl, rfl⟩)
        | ((with_reducible refine FB.out.mono ?_); rintro e w1 ⟨rfl, rfl⟩))
      | (go_at_call 30; refine (S1.out _ hb).mono ?_; rintro e w1 ⟨a, rfl, ⟨p, c, rfl, _, _⟩, hb2⟩; have hb := hb.trans (hb2.mono hb.size))
      | (go_at_call 32; refine (B1.out _ hb).mono ?_; rintro e w1 ⟨a, rfl, ⟨p2, c2, rfl, _, _⟩, hb2⟩; have hb := hb.trans (hb2.mono hb.size))
      | (go_at_call 11; refine (AW.out _).mono ?_; rintro e w6 ⟨rfl, hb2⟩; have hb := hb.trans (hb2.mono hb.size)))
    go_ret
    exact ⟨rfl, hb⟩
end Go.Proofs.Ytnegnmjjibhldaa
