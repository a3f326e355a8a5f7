/- Rows of ints, Ints; SameEvents. -/
import Derived.Test.YtihhgnjkmhdpmaaGreatDoorC
namespace Go.Proofs.YtihhgnjkmhdpmaaGreatDoor
open Go.RowKit
attribute [local go_sem] guardEv
/-- A slice of ints in memory. -/
def IRow (W : World) (v : Value) (xs : List Int) : Prop :=
  ∃ p c, v = .slice p xs.length c ∧ xs.length ≤ c ∧ ∀ i x, xs[i]? = some x → ∃ b o, p = some ⟨b, o, none⟩ ∧ W.cell? ⟨b, o + i, none⟩ = some (.int .i64 x)
theorem IRow.below {w w' : World} {v : Value} {xs : List Int} (h : IRow w v xs) (hb : Below w.heap.size w w') : IRow w' v xs := by
  obtain ⟨p, c, rfl, hc, hx⟩ := h
  refine ⟨p, c, rfl, hc, fun i x hi => ?_⟩
  obtain ⟨b, o, rfl, hcell⟩ := hx i x hi
  have hlt : b < w.heap.size := by
    rcases Nat.lt_or_ge b w.heap.size with h | h
    · exact h
    · simp [World.cell?, Array.getElem?_eq_none h] at hcell
  exact ⟨b, o, rfl, (hb.cell (p := ⟨b, o + i, none⟩) hlt).trans hcell⟩
theorem IRow.nil (W : World) : IRow W (.slice none 0 0) [] := ⟨none, 0, rfl, Nat.le_refl _, fun i x h => by simp at h⟩
theorem take_ne {α : Type} [DecidableEq α] {xs ys : List α} {k : Nat} {x y : α} (hx : xs[k]? = some x) (hy : ys[k]? = some y) (h : x ≠ y) : decide (xs = ys) = false := by
  rw [decide_eq_false_iff_not]; rintro rfl; rw [hx] at hy; cases hy; exact h rfl
theorem take_eq {α : Type} {xs ys : List α} {k : Nat} {x y : α} (hx : xs[k]? = some x) (hy : ys[k]? = some y) (h : x = y) (hd : xs.take k = ys.take k) : xs.take (k + 1) = ys.take (k + 1) := by
  rw [List.take_add_one, List.take_add_one, hx, hy, hd, h]
theorem take_all {α : Type} [DecidableEq α] {xs ys : List α} {n : Nat} (h1 : n = xs.length) (h2 : n = ys.length) (h : xs.take n = ys.take n) : decide (xs = ys) = true := by
  rw [List.take_of_length_le (by omega), List.take_of_length_le (by omega)] at h
  exact decide_eq_true h
theorem len_ne {α : Type} [DecidableEq α] {xs ys : List α} (h : xs.length ≠ ys.length) : decide (xs = ys) = false := by
  rw [decide_eq_false_iff_not]; rintro rfl; exact h rfl
set_option maxRecDepth 100000 in
theorem ints_any (a b : Value) (xs ys : List Int) (w : World) (ha : IRow w a xs) (hb : IRow w b ys) (hl : xs.length ≤ 100000000) :
    Calls Tryz.prog 19 #[a, b] w fun e w' => e = .returned (.bool (decide (xs = ys))) ∧ ∃ d, w' = w.drewN d := by
  obtain ⟨p1, c1, rfl, _, ha⟩ := ha
  obtain ⟨p2, c2, rfl, _, hb⟩ := hb
  by_cases hne : xs.length = ys.length
  · obtain ⟨n, hn⟩ : ∃ n, n = xs.length := ⟨_, rfl⟩
    have hn2 : n = ys.length := hn.trans hne
    have hne2 : ((n : Int) != (n : Int)) = false := by simp
    rw [← hn] at hl
    rw [← hn, ← hn2]
    have HA := Lib.hid ha
    have HB := Lib.hid hb
    have HN := Lib.hid hn
    have HN2 := Lib.hid hn2
    clear ha hb hn hn2 hne
    go_enter Tryz.func19, Tryz.ntmps19
    go_wp2
    go_loopw [5] (fun i wr => ∃ k : Nat, k ≤ n ∧ i = .int .i64 k ∧ Hid (xs.take k = ys.take k) ∧ ∃ d, wr = w.drewN d) (fun i _ => n - (intOf i).toNat)
    case atStart => exact ⟨0, Nat.zero_le _, rfl, Lib.hid rfl, 0, rfl⟩
    case round =>
      obtain ⟨k, hk, rfl, hd, d, rfl⟩ := hrel
      by_cases hlt : k < n
      · obtain ⟨x, hx⟩ : ∃ x, xs[k]? = some x := ⟨_, List.getElem?_eq_getElem (by rw [← HN.out]; exact hlt)⟩
        obtain ⟨y, hy⟩ : ∃ y, ys[k]? = some y := ⟨_, List.getElem?_eq_getElem (by rw [← HN2.out]; exact hlt)⟩
        obtain ⟨b1, o1, rfl, x0⟩ := HA.out k x hx
        obtain ⟨b2, o2, rfl, y0⟩ := HB.out k y hy
        have HX := Lib.hid hx
        have HY := Lib.hid hy
        clear hx hy
        have hltb : decide ((k : Int) < (n : Int)) = true := decide_eq_true (by omega)
        by_cases hxy : x = y
        · have ht := (show (x != y) = false by simp [hxy])
          have HXY := Lib.hid hxy
          clear hxy
          go_wp2
          go_quiet (fail)
          go_wp2
          go_roundw
          case rel => exact ⟨k + 1, by omega, by go_num, Lib.hid (take_eq HX.out HY.out HXY.out hd.out), _, rfl⟩
          case measure => simp [intOf]; omega
        · have ht := (show (x != y) = true by rw [bne_iff_ne]; exact hxy)
          have HK := Lib.hid (take_ne HX.out HY.out hxy)
          clear hxy
          go_wp2
          go_quiet (fail)
          go_wp2
          go_ret
          exact ⟨ret_bool HK.out.symm, _, drewN_drewN _ _ _⟩
      · have hltb : decide ((k : Int) < (n : Int)) = false := decide_eq_false (by omega)
        obtain rfl : k = n := by omega
        have HS := Lib.hid (take_all HN.out HN2.out hd.out)
        go_wp2
        go_ret
        exact ⟨ret_bool HS.out.symm, _, rfl⟩
  · have ht : ((xs.length : Int) != (ys.length : Int)) = true := by rw [bne_iff_ne]; omega
    have HK := Lib.hid (len_ne hne)
    clear hne
    go_enter Tryz.func19, Tryz.ntmps19
    go_wp2
    go_ret
    exact ⟨ret_bool HK.out.symm, 0, rfl⟩
theorem ev_dec_eq (x y : Ev) (h : x = y) : ∀ W : World, (Op.equalIn 10000 39 (.agg #[.int .i32 x.1, .int .i32 x.2]) (.agg #[.int .i32 y.1, .int .i32 y.2])).run Tryz.prog W = .ok true W := fun W => by rw [eqEv, h, ev_eq]
theorem ev_dec_ne (x y : Ev) (h : ¬ x = y) : ∀ W : World, (Op.equalIn 10000 39 (.agg #[.int .i32 x.1, .int .i32 x.2]) (.agg #[.int .i32 y.1, .int .i32 y.2])).run Tryz.prog W = .ok false W := fun W => by rw [eqEv, ev_ne h]
set_option maxRecDepth 100000 in
theorem events_any (a b : Value) (xs ys : List Ev) (w : World) (ha : TR w a xs) (hb : TR w b ys) (hl : xs.length ≤ 100000000) :
    Calls Tryz.prog 12 #[a, b] w fun e w' => e = .returned (.bool (decide (xs = ys))) ∧ ∃ d, w' = w.drewN d := by
  replace ha := ha.2
  replace hb := hb.2
  obtain ⟨p1, c1, rfl, _, ha⟩ := ha
  obtain ⟨p2, c2, rfl, _, hb⟩ := hb
  by_cases hne : xs.length = ys.length
  · obtain ⟨n, hn⟩ : ∃ n, n = xs.length := ⟨_, rfl⟩
    have hn2 : n = ys.length := hn.trans hne
    have hne2 : ((n : Int) != (n : Int)) = false := by simp
    rw [← hn] at hl
    rw [← hn, ← hn2]
    have HA := Lib.hid ha
    have HB := Lib.hid hb
    have HN := Lib.hid hn
    have HN2 := Lib.hid hn2
    clear ha hb hn hn2 hne
    go_enter Tryz.func12, Tryz.ntmps12
    go_wp2
    go_loopw [5] (fun i wr => ∃ k : Nat, k ≤ n ∧ i = .int .i64 k ∧ Hid (xs.take k = ys.take k) ∧ ∃ d, wr = w.drewN d) (fun i _ => n - (intOf i).toNat)
    case atStart => exact ⟨0, Nat.zero_le _, rfl, Lib.hid rfl, 0, rfl⟩
    case round =>
      obtain ⟨k, hk, rfl, hd, d, rfl⟩ := hrel
      by_cases hlt : k < n
      · obtain ⟨x, hx⟩ : ∃ x, xs[k]? = some x := ⟨_, List.getElem?_eq_getElem (by rw [← HN.out]; exact hlt)⟩
        obtain ⟨y, hy⟩ : ∃ y, ys[k]? = some y := ⟨_, List.getElem?_eq_getElem (by rw [← HN2.out]; exact hlt)⟩
        obtain ⟨b1, o1, rfl, _, x0, x1⟩ := HA.out k x hx
        obtain ⟨b2, o2, rfl, _, y0, y1⟩ := HB.out k y hy
        have HX := Lib.hid hx
        have HY := Lib.hid hy
        clear hx hy
        have hltb : decide ((k : Int) < (n : Int)) = true := decide_eq_true (by omega)
        by_cases hxy : x = y
        · have ht := (ev_dec_eq x y hxy)
          have HXY := Lib.hid hxy
          clear hxy
          go_wp2
          go_quiet (fail)
          go_wp2
          go_roundw
          case rel => exact ⟨k + 1, by omega, by go_num, Lib.hid (take_eq HX.out HY.out HXY.out hd.out), _, rfl⟩
          case measure => simp [intOf]; omega
        · have ht := (ev_dec_ne x y hxy)
          have HK := Lib.hid (take_ne HX.out HY.out hxy)
          clear hxy
          go_wp2
          go_quiet (fail)
          go_wp2
          go_ret
          exact ⟨ret_bool HK.out.symm, _, drewN_drewN _ _ _⟩
      · have hltb : decide ((k : Int) < (n : Int)) = false := decide_eq_false (by omega)
        obtain rfl : k = n := by omega
        have HS := Lib.hid (take_all HN.out HN2.out hd.out)
        go_wp2
        go_ret
        exact ⟨ret_bool HS.out.symm, _, rfl⟩
  · have ht : ((xs.length : Int) != (ys.length : Int)) = true := by rw [bne_iff_ne]; omega
    have HK := Lib.hid (len_ne hne)
    clear hne
    go_enter Tryz.func12, Tryz.ntmps12
    go_wp2
    go_ret
    exact ⟨ret_bool HK.out.symm, 0, rfl⟩
end Go.Proofs.YtihhgnjkmhdpmaaGreatDoor
