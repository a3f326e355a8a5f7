/- Layer 4: the law on keys. -/
import Derived.Test.YtnpfdnpklopnkaaFV
import Derived.Test.YtnpfdnpklopnkaaFU
namespace Go.Proofs.Ytnpfdnpklopnkaa
open Go.RowKit
theorem ba_ext {x y : ByteArray} (h : x.data.toList = y.data.toList) : x = y := by
  cases x; cases y; simp at h; simp [h]
theorem keyS_key (a : ByteArray) : keyS (keyS a) = keyS a := ba_ext (by rw [keyS_data, keyS_data, keyL_key])
theorem app_data (a b : ByteArray) : (a ++ b).data.toList = a.data.toList ++ b.data.toList := by simp
theorem keyS_append (a b : ByteArray) : keyS (a ++ b) = keyS a ++ keyS b := ba_ext (by rw [keyS_data, app_data, app_data, keyL_append]; rfl)
/-- The places ascend, fit, and the part there is alike. -/
theorem places_at {t s : ByteArray} {n x : Nat} (h : (placesL t s)[n]? = some x) : x + s.size ≤ t.size ∧ atB t s x = true := by
  have hm := List.mem_of_getElem? h
  unfold placesL at hm
  rw [List.mem_filter, List.mem_range] at hm
  exact ⟨by omega, hm.2⟩
theorem places_asc (t s : ByteArray) : (placesL t s).Pairwise (· < ·) := List.Pairwise.filter _ List.pairwise_lt_range
theorem places_step {t s : ByteArray} {n x y : Nat} (hx : (placesL t s)[n]? = some x) (hy : (placesL t s)[n + 1]? = some y) : x < y := by
  obtain ⟨h1, e1⟩ := List.getElem?_eq_some_iff.1 hx
  obtain ⟨h2, e2⟩ := List.getElem?_eq_some_iff.1 hy
  have := List.pairwise_iff_getElem.1 (places_asc t s) n (n + 1) h1 h2 (by omega)
  rw [e1, e2] at this
  exact this
theorem short_no {t s : ByteArray} (ht : t.size ≤ 4096) (hs : s.size ≤ 512) : longB t s = false := by
  unfold longB; simp; omega
/-- A string is found in what holds it. -/
theorem find_in (a b c : ByteArray) (ha : (a ++ b ++ c).size ≤ 4096) (hb : b.size ≤ 512) : ∃ x, findV (a ++ b ++ c) (keyS b) = (x, 0) ∧ x ≤ a.size := by
  have hm : a.size ∈ placesL (a ++ b ++ c) (keyS b) := by
    unfold placesL
    rw [List.mem_filter, List.mem_range, keyS_size, ByteArray.size_append, ByteArray.size_append]
    refine ⟨by omega, ?_⟩
    unfold atB
    rw [keyS_size, keyS_data, app_data, app_data, List.append_assoc, List.drop_left' (by simp), List.take_left' (by simp)]
    exact alike_key _
  unfold findV
  rw [short_no ha (by rw [keyS_size]; exact hb)]
  rcases hl : placesL (a ++ b ++ c) (keyS b) with _ | ⟨x, r⟩
  · rw [hl] at hm; cases hm
  · refine ⟨x, rfl, ?_⟩
    have hp := places_asc (a ++ b ++ c) (keyS b)
    rw [hl] at hp hm
    rcases List.mem_cons.1 hm with e | e
    · omega
    · have := (List.pairwise_cons.1 hp).1 _ e; omega
section
variable {a : Act} {w : World}
/-- A number out of an old block, in a quiet walk. -/
theorem quiet_num {o : Oper} {K : Act → Prop} {n : Nat} (x : Operand) (ho : o.op = .load 3 x) (p : Addr) (hx : a.eval x = .pointer (some p)) (c : Int) (hc : w.cell? p = some (.int .i64 c)) (hB : p.block < n)
    (h : K (a.put o.dst (.int .i64 c))) : o.quiet Try.prog a (fun w' => Below n w w') K :=
  ⟨_, fun w' hw => by
    have hc' := (hw.cell hB).trans hc
    unfold Oper.quietAt execOp
    rw [ho]
    simp only [hx]
    go_simp, h⟩
end
set_option maxHeartbeats 1600000 in
set_option maxRecDepth 100000 in
theorem fkeys_any (a b c : ByteArray) (w : World) : Calls Try.prog 9 #[.string a, .string b, .string c] w fun e w' => e = .returned (.bool true) ∧ Below w.heap.size w w' := by
  have SH := Lib.hid shown_any
  have hb := Below.refl w.heap.size w
  by_cases h1 : 100 < a.size
  · have hb1 : decide ((100 : Int) < (a.size : Int)) = true := decide_eq_true (by omega)
    clear h1
    go_enter Try.func9, Try.ntmps9
    go_wp2_with (first
      | (go_at_call 17; (with_reducible refine (SH.out _).mono ?_); rintro e w9 ⟨rfl, hb2⟩; replace hb := hb.trans (hb2.mono hb.size); clear hb2)
      )
    go_ret
    exact ⟨rfl, hb⟩
  have hb1 : decide ((100 : Int) < (a.size : Int)) = false := decide_eq_false (by omega)
  by_cases h2 : 100 < b.size
  · have hb2 : decide ((100 : Int) < (b.size : Int)) = true := decide_eq_true (by omega)
    clear h1 h2
    go_enter Try.func9, Try.ntmps9
    go_wp2_with (first
      | (go_at_call 17; (with_reducible refine (SH.out _).mono ?_); rintro e w9 ⟨rfl, hb2⟩; replace hb := hb.trans (hb2.mono hb.size); clear hb2)
      )
    go_ret
    exact ⟨rfl, hb⟩
  have hb2 : decide ((100 : Int) < (b.size : Int)) = false := decide_eq_false (by omega)
  by_cases h3 : 100 < c.size
  · have hb3 : decide ((100 : Int) < (c.size : Int)) = true := decide_eq_true (by omega)
    clear h1 h2 h3
    go_enter Try.func9, Try.ntmps9
    go_wp2_with (first
      | (go_at_call 17; (with_reducible refine (SH.out _).mono ?_); rintro e w9 ⟨rfl, hb2⟩; replace hb := hb.trans (hb2.mono hb.size); clear hb2)
      )
    go_ret
    exact ⟨rfl, hb⟩
  have hb3 : decide ((100 : Int) < (c.size : Int)) = false := decide_eq_false (by omega)
  have hac : (a ++ c).size = a.size + c.size := ByteArray.size_append
  have habc : (a ++ b ++ c).size = a.size + b.size + c.size := by rw [ByteArray.size_append, ByteArray.size_append]
  have hab : (a ++ b).size = a.size + b.size := ByteArray.size_append
  have KA := fun w => key_any a w (by omega)
  have KK := fun w => key_any (keyS a) w (by rw [keyS_size]; omega)
  have KAB := fun w => key_any (a ++ b) w (by omega)
  have KB := fun w => key_any b w (by omega)
  simp only [keyS_key] at KK
  simp only [keyS_append] at KAB
  have AL := fun w => all_any (a ++ c) b w (by omega) (by omega)
  have FI := fun w => find_any (a ++ c) b w (by omega) (by omega)
  have FJ := fun w => find_any (a ++ b ++ c) (keyS b) w (by omega) (by rw [keyS_size]; omega)
  obtain ⟨x, hfx, hxa⟩ := find_in a b c (by omega) (by omega)
  have hlong := short_no (t := a ++ c) (s := b) (by omega) (by omega)
  have e1 : allL (a ++ c) b = placesL (a ++ c) b := by unfold allL; rw [hlong]; rfl
  have e2 : allE (a ++ c) b = 0 := by unfold allE; rw [hlong]; rfl
  have e3 : findV (a ++ c) b = match placesL (a ++ c) b with | [] => (0, 4) | x :: _ => (x, 0) := by unfold findV; rw [hlong]; rfl
  unfold AllPost at AL
  unfold FindPost at FI FJ
  simp only [e1, e2] at AL
  simp only [e3] at FI
  simp only [hfx] at FJ
  have PA := Lib.hid (fun n x => places_at (t := a ++ c) (s := b) (n := n) (x := x))
  have PS := Lib.hid (fun n x y => places_step (t := a ++ c) (s := b) (n := n) (x := x) (y := y))
  have hPL := placesL_len (a ++ c) b
  have hka := keyS_size a
  have hkb := keyS_size b
  have A1 : ¬ 9223372036854775807 < a.size + b.size := by omega
  have A2 : ¬ 9223372036854775807 < a.size + c.size := by omega
  have A3 : ¬ 9223372036854775807 < a.size + b.size + c.size := by omega
  replace KA := Lib.hid KA
  replace KB := Lib.hid KB
  replace KK := Lib.hid KK
  replace KAB := Lib.hid KAB
  replace FJ := Lib.hid FJ
  generalize keyS a = ka at *
  generalize keyS b = kb at *
  obtain ⟨L, hL⟩ : ∃ L, L = placesL (a ++ c) b := ⟨_, rfl⟩
  rw [← hL] at AL FI PA PS hPL
  clear e1 e2 e3 hlong hfx hL
  replace AL := Lib.hid AL
  rcases L with _ | ⟨y, r⟩
  · replace FI := Lib.hid FI
    clear PA PS hPL
    go_enter Try.func9, Try.ntmps9
    go_wp2_with (first
      | (go_at_call 28; (with_reducible refine (KA.out _).mono ?_); rintro e w2 ⟨rfl, hb2⟩; replace hb := hb.trans (hb2.mono hb.size); clear hb2)
      | (go_at_call 28; (with_reducible refine (KK.out _).mono ?_); rintro e w2 ⟨rfl, hb2⟩; replace hb := hb.trans (hb2.mono hb.size); clear hb2)
      | (go_at_call 28; (with_reducible refine (KAB.out _).mono ?_); rintro e w2 ⟨rfl, hb2⟩; replace hb := hb.trans (hb2.mono hb.size); clear hb2)
      | (go_at_call 28; (with_reducible refine (KB.out _).mono ?_); rintro e w2 ⟨rfl, hb2⟩; replace hb := hb.trans (hb2.mono hb.size); clear hb2)
      | (go_at_call 35; (with_reducible refine (AL.out _).mono ?_); rintro e w2 ⟨v, rfl, ⟨pp, cc, rfl, _, _⟩, hb2⟩; replace hb := hb.trans (hb2.mono hb.size); clear hb2)
      | (go_at_call 33; (with_reducible refine (FI.out _).mono ?_); rintro e w2 ⟨rfl, hb2⟩; replace hb := hb.trans (hb2.mono hb.size); clear hb2)
      )
    have HB := Lib.hid hb
    clear hb
    go_loopw [12] (fun i wr => i = .int .i64 0 ∧ Below w2.heap.size w2 wr) (fun _ _ => 0)
    case atStart => exact ⟨rfl, Below.refl _ _⟩
    case round =>
      obtain ⟨rfl, hB⟩ := hrel
      have hb := HB.out.trans (hB.mono HB.out.size)
      have hxb : decide ((x : Int) ≤ (a.size : Int)) = true := decide_eq_true (by omega)
      go_wp2_with (first
        | (go_at_call 28; (with_reducible refine (KB.out _).mono ?_); rintro e w5 ⟨rfl, hb2⟩; replace hb := hb.trans (hb2.mono hb.size); clear hb2)
        | (go_at_call 33; (with_reducible refine (FJ.out _).mono ?_); rintro e w5 ⟨rfl, hb2⟩; replace hb := hb.trans (hb2.mono hb.size); clear hb2)
        | (go_at_call 17; (with_reducible refine (SH.out _).mono ?_); rintro e w5 ⟨rfl, hb2⟩; replace hb := hb.trans (hb2.mono hb.size); clear hb2)
        )
      go_ret
      exact ⟨rfl, hb⟩
  · obtain ⟨L, hL⟩ : ∃ L, L = y :: r := ⟨_, rfl⟩
    rw [← hL] at AL PA PS hPL
    simp only at FI
    have hy : L[0]? = some y := by rw [hL]; rfl
    have hlN : 0 < L.length := by rw [hL]; simp
    have hl0 : decide ((0 : Int) < (L.length : Int)) = true := decide_eq_true (by omega)
    have HY := Lib.hid hy
    clear hL hy
    replace FI := Lib.hid FI
    go_enter Try.func9, Try.ntmps9
    go_wp2_with (first
      | (go_at_call 28; (with_reducible refine (KA.out _).mono ?_); rintro e w2 ⟨rfl, hb2⟩; replace hb := hb.trans (hb2.mono hb.size); clear hb2)
      | (go_at_call 28; (with_reducible refine (KK.out _).mono ?_); rintro e w2 ⟨rfl, hb2⟩; replace hb := hb.trans (hb2.mono hb.size); clear hb2)
      | (go_at_call 28; (with_reducible refine (KAB.out _).mono ?_); rintro e w2 ⟨rfl, hb2⟩; replace hb := hb.trans (hb2.mono hb.size); clear hb2)
      | (go_at_call 28; (with_reducible refine (KB.out _).mono ?_); rintro e w2 ⟨rfl, hb2⟩; replace hb := hb.trans (hb2.mono hb.size); clear hb2)
      | (go_at_call 35; (with_reducible refine (AL.out _).mono ?_); rintro e w2 ⟨v, rfl, hv, hb2⟩; replace hb := hb.trans (hb2.mono hb.size); clear hb2)
      | (go_at_call 33; (with_reducible refine (FI.out _).mono ?_); rintro e w2 ⟨rfl, hb2⟩; replace hb := hb.trans (hb2.mono hb.size); (try replace hv := hv.below hb2); clear hb2; obtain ⟨g, o, cc, rfl, hgw, hcells⟩ := hv.form hlN; have hc0 : w2.cell? ⟨g, o, none⟩ = some (.int .i64 (y : Int)) := hcells 0 y HY.out; have HV := Lib.hid hcells; clear hcells hv)
      )
    have HB := Lib.hid hb
    clear hb hc0
    go_loopw [12] (fun i wr => ∃ k : Nat, k ≤ L.length ∧ i = .int .i64 (k : Int) ∧ Below w2.heap.size w2 wr) (fun i _ => L.length - (intOf i).toNat)
    case atStart => exact ⟨0, Nat.zero_le _, rfl, Below.refl _ _⟩
    case round =>
      obtain ⟨k, hk, rfl, hB⟩ := hrel
      by_cases hlt : k < L.length
      · have hltb : decide ((k : Int) < (L.length : Int)) = true := decide_eq_true (by omega)
        have hkn : (k : Int) < (L.length : Int) := by omega
        obtain ⟨z, hz⟩ : ∃ z, L[k]? = some z := ⟨_, List.getElem?_eq_getElem hlt⟩
        obtain ⟨hz1, hz2⟩ := PA.out k z hz
        have hck := (hB.cell (p := ⟨g, o + k, none⟩) hgw).trans (HV.out k z hz)
        have hgr : g < wr.heap.size := Nat.lt_of_lt_of_le hgw hB.size
        have b1 : decide ((z : Int) < 0) = false := decide_eq_false (by omega)
        have b2 : decide ((a.size : Int) + (c.size : Int) < (z : Int) + (b.size : Int)) = false := decide_eq_false (by omega)
        have hw1 : IntKind.i64.wrap ((z : Int) + (b.size : Int)) = (z : Int) + (b.size : Int) := IntWalk.i64_in _ (by omega)
        have hw2 : IntKind.i64.wrap ((a.size : Int) + (c.size : Int)) = (a.size : Int) + (c.size : Int) := IntWalk.i64_in _ (by omega)
        have hs0 : 0 ≤ (z : Int) + (b.size : Int) ∧ (z : Int) + (b.size : Int) ≤ (a.size : Int) + (c.size : Int) := by omega
        have hs1 : (z : Int) ≤ (z : Int) + (b.size : Int) := by omega
        have hs2 : ((z : Int) + (b.size : Int)).toNat = z + b.size := by omega
        have hsz : ((a ++ c).extract z (z + b.size)).size ≤ 1000000000 := by
          have : ((a ++ c).extract z (z + b.size)).data.toList.length = _ := congrArg List.length (ext_part (s := b))
          rw [length_data, List.length_take] at this; omega
        have AK := fun w => alike_any ((a ++ c).extract z (z + b.size)) b w (by unfold maxLen; omega) (by unfold maxLen; omega)
        rw [ext_part] at AK
        rw [show alikeL (((a ++ c).data.toList.drop z).take b.size) b.data.toList = atB (a ++ c) b z from rfl] at AK
        simp only [hz2] at AK
        replace AK := Lib.hid AK
        have HZ := Lib.hid hz
        have HBB := Lib.hid hB
        clear hz hz1 hz2 hsz
        by_cases hk0 : k = 0
        · subst hk0
          have hck0 : wr.cell? ⟨g, o, none⟩ = some (.int .i64 (z : Int)) := hck
          clear hck hB
          go_wp2
          refine wp_region_below (w := wr) (Nat.le_refl _) (by kernel_rfl) (by kernel_rfl) ?_
          repeat (first
            | go_big_quiet_skip
            | (go_big_quiet_want; (first
                | ((refine quiet_num _ rfl _ rfl _ hck0 hgr ?_); simp only [Act.put, List.setIfInBounds_toArray, List.set_cons_succ, List.set_cons_zero]; go_big_quiet_on)
                | (go_big_quiet_op; (first
                    | go_big_quiet_on
                    | (refine ⟨_, fun _ _ => rfl, ?_⟩; go_big_quiet_on)
                    | (apply Exists.intro; refine ⟨fun w9 hw9 => ?_, ?_⟩; (focus ((go_at_call 26; exact Calls.quiet_below (AK.out _) hw9 (Nat.le_refl _) (fun _ _ h => h)))); go_big_quiet_on))))))
          refine wpQuiet_nil ?_
          intro w4 hb4
          go_wp2
          go_roundw
          case rel => exact ⟨1, by omega, by go_num, HBB.out.trans (hb4.mono HBB.out.size)⟩
          case measure => simp [intOf]; omega
        · obtain ⟨j, hj⟩ : ∃ j, j + 1 = k := ⟨k - 1, by omega⟩
          obtain ⟨d, hd⟩ : ∃ d, L[j]? = some d := ⟨_, List.getElem?_eq_getElem (by omega)⟩
          have hdz := PS.out j d z hd (by rw [hj]; exact HZ.out)
          have hdk := (hB.cell (p := ⟨g, o + j, none⟩) hgw).trans (HV.out j d hd)
          have b3 : decide ((z : Int) ≤ (d : Int)) = false := decide_eq_false (by omega)
          have b4 : ¬ z ≤ d := by omega
          have b5 : decide ((0 : Int) < (k : Int)) = true := decide_eq_true (by omega)
          have b6 : 0 < k := by omega
          have hjn : (j : Int) < (L.length : Int) := by omega
          have hw4 : IntKind.i64.wrap ((k : Int) - 1) = (j : Int) := by rw [IntWalk.i64_in _ (by omega)]; omega
          clear hd hdz hB hj
          go_wp2
          refine wp_region_below (w := wr) (Nat.le_refl _) (by kernel_rfl) (by kernel_rfl) ?_
          repeat (first
            | go_big_quiet_skip
            | (go_big_quiet_want; (first
                | ((first | refine quiet_num _ rfl _ rfl _ hck hgr ?_ | refine quiet_num _ rfl _ rfl _ hdk hgr ?_); simp only [Act.put, List.setIfInBounds_toArray, List.set_cons_succ, List.set_cons_zero]; go_big_quiet_on)
                | (go_big_quiet_op; (first
                    | go_big_quiet_on
                    | (refine ⟨_, fun _ _ => rfl, ?_⟩; go_big_quiet_on)
                    | (apply Exists.intro; refine ⟨fun w9 hw9 => ?_, ?_⟩; (focus ((go_at_call 26; exact Calls.quiet_below (AK.out _) hw9 (Nat.le_refl _) (fun _ _ h => h)))); go_big_quiet_on))))))
          refine wpQuiet_nil ?_
          intro w4 hb4
          go_wp2
          go_roundw
          case rel => exact ⟨k + 1, by omega, by go_num, HBB.out.trans (hb4.mono HBB.out.size)⟩
          case measure => simp [intOf]; omega
      · obtain rfl : k = L.length := by omega
        have hltb : decide ((L.length : Int) < (L.length : Int)) = false := decide_eq_false (by omega)
        have hb := HB.out.trans (hB.mono HB.out.size)
        have hxb : decide ((x : Int) ≤ (a.size : Int)) = true := decide_eq_true (by omega)
        go_wp2_with (first
          | (go_at_call 28; (with_reducible refine (KB.out _).mono ?_); rintro e w5 ⟨rfl, hb2⟩; replace hb := hb.trans (hb2.mono hb.size); clear hb2)
          | (go_at_call 33; (with_reducible refine (FJ.out _).mono ?_); rintro e w5 ⟨rfl, hb2⟩; replace hb := hb.trans (hb2.mono hb.size); clear hb2)
          | (go_at_call 17; (with_reducible refine (SH.out _).mono ?_); rintro e w5 ⟨rfl, hb2⟩; replace hb := hb.trans (hb2.mono hb.size); clear hb2)
          )
        go_ret
        exact ⟨rfl, hb⟩
end Go.Proofs.Ytnpfdnpklopnkaa
