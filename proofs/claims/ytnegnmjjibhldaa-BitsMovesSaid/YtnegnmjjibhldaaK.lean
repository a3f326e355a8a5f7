/- Layer 2: Of of the program and of the reference. -/
import Derived.Test.YtnegnmjjibhldaaJ
namespace Go.Proofs.Ytnegnmjjibhldaa
open Go.RowKit
def okL (n : Nat) (zs : List Int) : Bool := zs.all (hasB n)
def inL (zs : List Int) (i : Nat) : Bool := decide ((i : Int) ∈ zs)
def ofE (n : Int) (zs : List Int) : Int := if n < 1 then 6 else if 8 < n then 3 else if okL n.toNat zs then 0 else 7
def ofR (n : Int) (zs : List Int) : List Nat := if ofE n zs = 0 then mkRow n.toNat (inL zs) else []
theorem okL_take {n : Nat} {zs : List Int} {k : Nat} {z : Int} (hz : zs[k]? = some z) (h : okL n (zs.take k) = true) (hh : hasB n z = true) : okL n (zs.take (k + 1)) = true := by
  unfold okL at *
  rw [List.take_add_one, hz, List.all_append, h]; simp [hh]
theorem okL_bad {n : Nat} {zs : List Int} {k : Nat} {z : Int} (hz : zs[k]? = some z) (hh : hasB n z = false) : okL n zs = false := by
  unfold okL; rw [List.all_eq_false]; exact ⟨z, List.mem_of_getElem? hz, by simp [hh]⟩
theorem inL_take {zs : List Int} {k : Nat} {z : Nat} (hz : zs[k]? = some (z : Int)) (j : Nat) : inL (zs.take (k + 1)) j = if j = z then true else inL (zs.take k) j := by
  unfold inL
  rw [List.take_add_one, hz]
  by_cases e : j = z
  · subst e; simp
  · rw [if_neg e]; simp; omega
theorem of_bad {n : Int} (zs : List Int) (h : n < 1 ∨ 8 < n) : ofE n zs = (if n < 1 then 6 else 3) ∧ ofR n zs = [] := by
  have : ofE n zs = (if n < 1 then 6 else 3) := by unfold ofE; by_cases h1 : n < 1 <;> simp [h1]; omega
  refine ⟨this, ?_⟩
  unfold ofR; rw [if_neg (by rw [this]; split <;> decide)]
theorem put_row {w : World} {g c n : Nat} {f h : Nat → Bool} {i : Nat} {t : Bool} (ho : Own64 w g c (mkRow n f)) (hi : i < 64 * n) (hG : ∀ j, j < 64 * n → h j = if j = i then t else f j) :
    Own64 (w.setCell ⟨g, i / 64, none⟩ (.int .u64 ((putB ((mkRow n f).getD (i / 64) 0) (i % 64) t : Nat) : Int))) g c (mkRow n h) := by
  have := ho.set (i / 64) (putB ((mkRow n f).getD (i / 64) 0) (i % 64) t)
  have e : (mkRow n f).set (i / 64) (putB ((mkRow n f).getD (i / 64) 0) (i % 64) t) = mkRow n h := by
    have := setB_row (mkRow_wf n f) i t (by rw [mkRow_len]; exact hi)
    unfold setB at this
    rw [this, mkRow_len]
    exact mkRow_congr fun j hj => by rw [hG j hj, mkRow_bit n f j hj]
  rw [e] at this
  exact this
theorem IRow.later {W : World} {v : Value} {xs : List Int} (h : IRow W v xs) {w' : World} (hb : Below W.heap.size W w') : ∃ p c, v = .slice p xs.length c ∧ ∀ i x, xs[i]? = some x → ∃ b o, p = some ⟨b, o, none⟩ ∧ b < W.heap.size ∧ w'.cell? ⟨b, o + i, none⟩ = some (.int .i64 x) := by
  obtain ⟨p, c, rfl, hc, hx⟩ := h
  refine ⟨p, c, rfl, fun i x hi => ?_⟩
  obtain ⟨b, o, rfl, hcell⟩ := hx i x hi
  have hlt : b < W.heap.size := by
    rcases Nat.lt_or_ge b W.heap.size with h | h
    · exact h
    · simp [World.cell?, Array.getElem?_eq_none h] at hcell
  exact ⟨b, o, rfl, hlt, (hb.cell (p := ⟨b, o + i, none⟩) hlt).trans hcell⟩
/-- The cells of a slice of ints, in all later worlds. -/
theorem IRow.form {W : World} {v : Value} {xs : List Int} (h : IRow W v xs) : ∃ p c, v = .slice p xs.length c ∧ ∀ w' i x, Below W.heap.size W w' → xs[i]? = some x → ∃ b o, p = some ⟨b, o, none⟩ ∧ b < W.heap.size ∧ w'.cell? ⟨b, o + i, none⟩ = some (.int .i64 x) := by
  obtain ⟨p, c, rfl, _, _⟩ := id h
  refine ⟨p, c, rfl, fun w' i x hb hi => ?_⟩
  obtain ⟨p', c', e, hh⟩ := h.later hb
  cases e
  exact hh i x hi
set_option maxHeartbeats 400000 in
set_option maxRecDepth 100000 in
theorem of_any (n : Int) (v : Value) (zs : List Int) (w : World) (hv : IRow w v zs) (hl : zs.length ≤ 1000000) : Calls Try.prog 24 #[.int .i64 n, v] w (RowPost w (ofR n zs) (ofE n zs)) := by
  by_cases hr : n < 1 ∨ 8 < n
  · obtain ⟨e1, e2⟩ := of_bad zs hr
    by_cases h1 : n < 1
    · rw [if_pos h1] at e1
      have E := Lib.hid e1
      have R := Lib.hid e2
      clear hr e1 e2
      go_enter Try.func24, Try.ntmps24
      go_wp2
      go_ret2
      exact ⟨.slice none 0 0, by rw [E.out]; rfl, by rw [R.out]; exact URow.none _, Below.refl _ _⟩
    · rw [if_neg h1] at e1
      have E := Lib.hid e1
      have R := Lib.hid e2
      have h8 : 8 < n := by omega
      clear hr e1 e2
      go_enter Try.func24, Try.ntmps24
      go_wp2
      go_ret2
      exact ⟨.slice none 0 0, by rw [E.out]; rfl, by rw [R.out]; exact URow.none _, Below.refl _ _⟩
  · obtain ⟨m, rfl⟩ : ∃ m : Nat, n = m := ⟨n.toNat, by omega⟩
    have t1 : decide ((m : Int) < 1) = false := decide_eq_false (by omega)
    have t2 : decide ((8 : Int) < (m : Int)) = false := decide_eq_false (by omega)
    have hm : 0 < m ∧ m ≤ 8 := by omega
    have EK := Lib.hid (show okL m zs = true → ofE m zs = 0 ∧ ofR m zs = mkRow m (inL zs) from fun h => by
      have : ofE m zs = 0 := by unfold ofE; rw [if_neg (by omega), if_neg (by omega), Int.toNat_natCast, h]; rfl
      exact ⟨this, by unfold ofR; rw [if_pos this]; rfl⟩)
    have EN := Lib.hid (show okL m zs = false → ofE m zs = 7 ∧ ofR m zs = [] from fun h => by
      have : ofE m zs = 7 := by unfold ofE; rw [if_neg (by omega), if_neg (by omega), Int.toNat_natCast, h]; rfl
      exact ⟨this, by unfold ofR; rw [if_neg (by rw [this]; decide)]⟩)
    have MK := mk_any m (by omega)
    obtain ⟨p, c, rfl, hz⟩ := hv.form
    have HZ := Lib.hid hz
    obtain ⟨l, hll⟩ : ∃ l, l = zs.length := ⟨_, rfl⟩
    rw [← hll] at hl ⊢
    have HL := Lib.hid hll
    clear hr hz hll hv
    go_enter Try.func24, Try.ntmps24
    go_wp2
    go_loopw [8, 17] (fun _ i wr => ∃ k : Nat, k ≤ l ∧ i = .int .i64 k ∧ Hid (okL m (zs.take k) = true) ∧ Own64 wr w.heap.size m (mkRow m (inL (zs.take k))) ∧ Below w.heap.size w wr) (fun _ i _ => l - (intOf i).toNat)
    case atStart =>
      refine ⟨0, Nat.zero_le _, rfl, Lib.hid rfl, ?_, (Below.refl _ w).alloc (Nat.le_refl _) _⟩
      rw [mkRow_zero _ _ (fun j _ => by simp [inL])]
      exact made_own w m (by omega)
    case round =>
      obtain ⟨k, hk, rfl, hok, hown, hb⟩ := hrel
      by_cases hlt : k < l
      · have hltb : decide ((k : Int) < (l : Int)) = true := decide_eq_true (by omega)
        obtain ⟨z, hx⟩ : ∃ z, zs[k]? = some z := ⟨_, List.getElem?_eq_getElem (by rw [← HL.out]; exact hlt)⟩
        obtain ⟨b, o, rfl, hbb, hcell⟩ := HZ.out wr k z hb hx
        have hrow := hown.row
        rw [mkRow_len] at hrow
        have HH := Lib.hid (has_any _ _ z wr hrow (by rw [mkRow_len]; omega))
        rw [mkRow_len] at HH
        clear hrow
        by_cases hh : hasB m z = true
        · obtain ⟨j, rfl, hj⟩ := hasB_true hh
          have HX := Lib.hid hx
          have HHH := Lib.hid hh
          rw [hh] at HH
          obtain ⟨y, hy⟩ : ∃ y, y = (mkRow m (inL (zs.take k))).getD (j / 64) 0 := ⟨_, rfl⟩
          have hc1 := hown.cell (j := j / 64) (by rw [mkRow_len]; omega)
          rw [← hy] at hc1
          have hf1 := hown.frozen (j / 64)
          have e1 := or_true (x := y) (k := j % 64) (by rw [hy]; exact (mkRow_wf _ _).get _) (by omega)
          have PR := Lib.hid (put_row hown hj (t := true) (h := inL (zs.take (k + 1))) (fun i _ => inL_take hx i))
          rw [← hy] at PR
          have PL2 := fun w' => (place_any j w' (by omega)).mono (R' := fun e w2 => e = .returned (.int .u64 ((2 ^ (j % 64) : Nat) : Int)) ∧ w2 = w') (by rintro e w' ⟨rfl, rfl⟩; exact ⟨rfl, rfl⟩)
          have q0 : (0 : Int) ≤ (j : Int) / 64 := by omega
          have q1 : (j : Int) / 64 < (m : Int) := by omega
          have q2 : ((j : Int) / 64).toNat = j / 64 := by omega
          have q3 : IntKind.i64.wrap ((j : Int) / 64) = (j : Int) / 64 := IntWalk.i64_in _ (by omega)
          have hj6 : j < 1000 := by omega
          clear hx hown hh hy hj
          go_wp2_with (go_at_call 38; refine HH.out.mono ?_; rintro e w' ⟨rfl, rfl⟩)
          refine wp_region_still_tail 9 (by kernel_rfl) (by kernel_rfl) ?_
          simp only [List.take_succ_cons, List.take_zero, List.drop_succ_cons, List.drop_zero]
          repeat (first | still_step | still_call (PL2 _))
          refine wpStill_nil ?_
          go_wp2
          go_roundw
          case rel => exact ⟨k + 1, by omega, by go_num, Lib.hid (okL_take HX.out hok.out HHH.out), PR.out.drew, (hb.setCell (p := ⟨w.heap.size, j / 64, none⟩) (Nat.le_refl _) _).drew⟩
          case measure => simp [intOf]; omega
        · have hh : hasB m z = false := by simpa using hh
          have B := Lib.hid (EN.out (okL_bad hx hh))
          rw [hh] at HH
          clear hx hown hh
          go_wp2_with (go_at_call 38; refine HH.out.mono ?_; rintro e w' ⟨rfl, rfl⟩)
          go_ret2
          exact ⟨.slice none 0 0, by rw [B.out.1]; rfl, by rw [B.out.2]; exact URow.none _, hb⟩
      · obtain rfl : k = l := by omega
        have hltb : decide ((k : Int) < (k : Int)) = false := decide_eq_false (by omega)
        have hall : zs.take k = zs := List.take_of_length_le (by rw [HL.out]; exact Nat.le_refl _)
        have G := Lib.hid (EK.out (by have := hok.out; rwa [hall] at this))
        have HO := Lib.hid (show URow wr (rowV w.heap.size m m) (mkRow m (inL zs)) from by
          rw [hall] at hown
          have := hown.row
          rw [mkRow_len] at this
          exact this)
        clear hown hall
        go_wp2
        go_ret2
        exact ⟨rowV w.heap.size m m, by rw [G.out.1]; rfl, by rw [G.out.2]; exact HO.out, hb⟩
end Go.Proofs.Ytnegnmjjibhldaa
