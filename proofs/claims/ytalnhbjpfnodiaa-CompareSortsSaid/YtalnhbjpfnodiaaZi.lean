/- The law's comparisons, its arenas. -/
import Derived.Test.YtalnhbjpfnodiaaZh
namespace Go.Proofs.Ytalnhbjpfnodiaa
open Go.RowKit
attribute [local go_sem] guardEv guardRg
set_option maxRecDepth 100000 in
theorem law_ev (a b : Value) (xs ys : List (Nat × Nat)) (w : World) (ha : ES w a xs) (hb : ES w b ys) (hl : xs.length ≤ 100000000) :
    Calls Try.prog 30 #[a, b] w fun e w' => e = .returned (.bool (eqB xs ys)) ∧ ∃ d, w' = w.drewN d := by
  obtain ⟨p1, c1, rfl, ha⟩ := ha
  obtain ⟨p2, c2, rfl, hb⟩ := hb
  by_cases hne : xs.length = ys.length
  · obtain ⟨n, hn⟩ : ∃ n, n = xs.length := ⟨_, rfl⟩
    have hn2 : n = ys.length := hn.trans hne
    have hne2 : ((n : Int) != (n : Int)) = false := by simp
    rw [← hn] at hl
    rw [← hn, ← hn2]
    have HA := Lib.hid ha
    have HB := Lib.hid hb
    have HN := Lib.hid hn
    have HN2 := Lib.hid hn2
    clear ha hb hn hn2 hne
    go_enter Try.func30, Try.ntmps30
    go_wp2
    go_loopw [5] (fun i wr => ∃ k : Nat, k ≤ n ∧ i = .int .i64 k ∧ Hid (xs.take k = ys.take k) ∧ ∃ d, wr = w.drewN d) (fun i _ => n - (intOf i).toNat)
    case atStart => exact ⟨0, Nat.zero_le _, rfl, Lib.hid rfl, 0, rfl⟩
    case round =>
      obtain ⟨k, hk, rfl, hd, d, rfl⟩ := hrel
      by_cases hlt : k < n
      · obtain ⟨x, hx⟩ : ∃ x, xs[k]? = some x := ⟨_, List.getElem?_eq_getElem (by rw [← HN.out]; exact hlt)⟩
        obtain ⟨y, hy⟩ : ∃ y, ys[k]? = some y := ⟨_, List.getElem?_eq_getElem (by rw [← HN2.out]; exact hlt)⟩
        obtain ⟨b1, o1, rfl, x0, x1, _⟩ := HA.out k x hx
        obtain ⟨b2, o2, rfl, y0, y1, _⟩ := HB.out k y hy
        have HX := Lib.hid hx
        have HY := Lib.hid hy
        clear hx hy
        have hltb : decide ((k : Int) < (n : Int)) = true := decide_eq_true (by omega)
        by_cases hxy : x = y
        · have HXY := Lib.hid hxy
          have ht : ∀ W : World, (Op.equalIn 10000 77 (.agg #[.int .i32 (x.1 : Int), .int .i32 (x.2 : Int)]) (.agg #[.int .i32 (y.1 : Int), .int .i32 (y.2 : Int)])).run Try.prog W = .ok true W := fun W => by (rw [eqEv, HXY.out]; simp)
          clear hxy
          go_wp2
          go_quiet (fail)
          go_wp2
          go_roundw
          case rel => exact ⟨k + 1, by omega, by go_num, Lib.hid (take_eq HX.out HY.out HXY.out hd.out), _, rfl⟩
          case measure => simp [intOf]; omega
        · have ht : ∀ W : World, (Op.equalIn 10000 77 (.agg #[.int .i32 (x.1 : Int), .int .i32 (x.2 : Int)]) (.agg #[.int .i32 (y.1 : Int), .int .i32 (y.2 : Int)])).run Try.prog W = .ok false W := fun W => by (rw [eqEv, ev_ne hxy])
          have HK := Lib.hid (eqB_false (take_ne HX.out HY.out hxy))
          clear hxy
          go_wp2
          go_quiet (fail)
          go_wp2
          go_ret
          exact ⟨ret_bool HK.out.symm, _, drewN_drewN _ _ _⟩
      · have hltb : decide ((k : Int) < (n : Int)) = false := decide_eq_false (by omega)
        obtain rfl : k = n := by omega
        have HS := Lib.hid (eqB_true (take_all HN.out HN2.out hd.out))
        go_wp2
        go_ret
        exact ⟨ret_bool HS.out.symm, d, rfl⟩
  · have hne2 : ((xs.length : Int) != (ys.length : Int)) = true := by rw [bne_iff_ne]; omega
    have HS := Lib.hid (eqB_false (xs := xs) (ys := ys) (fun e => hne (by rw [e])))
    go_enter Try.func30, Try.ntmps30
    go_wp2
    go_ret
    exact ⟨ret_bool HS.out.symm, 0, rfl⟩
theorem law_cs (a b : Value) (xs ys : List Nat) (w : World) (ha : URow w a xs) (hb : URow w b ys) (hl : xs.length ≤ 1000000) :
    Calls Try.prog 33 #[a, b] w fun e w' => e = .returned (.bool (eqB xs ys)) ∧ ∃ d, w' = w.drewN d := by
  obtain ⟨p1, c1, rfl, _, ha⟩ := ha
  obtain ⟨p2, c2, rfl, _, hb⟩ := hb
  by_cases hne : xs.length = ys.length
  · obtain ⟨n, hn⟩ : ∃ n, n = xs.length := ⟨_, rfl⟩
    have hn2 : n = ys.length := hn.trans hne
    have hne2 : ((n : Int) != (n : Int)) = false := by simp
    rw [← hn] at hl
    rw [← hn, ← hn2]
    have HA := Lib.hid ha
    have HB := Lib.hid hb
    have HN := Lib.hid hn
    have HN2 := Lib.hid hn2
    clear ha hb hn hn2 hne
    go_enter Try.func33, Try.ntmps33
    go_wp2
    go_loopw [5] (fun i wr => ∃ k : Nat, k ≤ n ∧ i = .int .i64 k ∧ Hid (xs.take k = ys.take k) ∧ ∃ d, wr = w.drewN d) (fun i _ => n - (intOf i).toNat)
    case atStart => exact ⟨0, Nat.zero_le _, rfl, Lib.hid rfl, 0, rfl⟩
    case round =>
      obtain ⟨k, hk, rfl, hd, d, rfl⟩ := hrel
      by_cases hlt : k < n
      · obtain ⟨x, hx⟩ : ∃ x, xs[k]? = some x := ⟨_, List.getElem?_eq_getElem (by rw [← HN.out]; exact hlt)⟩
        obtain ⟨y, hy⟩ : ∃ y, ys[k]? = some y := ⟨_, List.getElem?_eq_getElem (by rw [← HN2.out]; exact hlt)⟩
        obtain ⟨b1, o1, rfl, x0⟩ := HA.out k x hx
        obtain ⟨b2, o2, rfl, y0⟩ := HB.out k y hy
        have HX := Lib.hid hx
        have HY := Lib.hid hy
        clear hx hy
        have hltb : decide ((k : Int) < (n : Int)) = true := decide_eq_true (by omega)
        by_cases hxy : x = y
        · have ht : ((x : Int) != (y : Int)) = false := by simp [hxy]
          have HXY := Lib.hid hxy
          clear hxy
          go_wp2
          go_quiet (fail)
          go_wp2
          go_roundw
          case rel => exact ⟨k + 1, by omega, by go_num, Lib.hid (take_eq HX.out HY.out HXY.out hd.out), _, rfl⟩
          case measure => simp [intOf]; omega
        · have ht : ((x : Int) != (y : Int)) = true := by rw [bne_iff_ne]; omega
          have HK := Lib.hid (eqB_false (take_ne HX.out HY.out hxy))
          clear hxy
          go_wp2
          go_quiet (fail)
          go_wp2
          go_ret
          exact ⟨ret_bool HK.out.symm, _, drewN_drewN _ _ _⟩
      · have hltb : decide ((k : Int) < (n : Int)) = false := decide_eq_false (by omega)
        obtain rfl : k = n := by omega
        have HS := Lib.hid (eqB_true (take_all HN.out HN2.out hd.out))
        go_wp2
        go_ret
        exact ⟨ret_bool HS.out.symm, d, rfl⟩
  · have hne2 : ((xs.length : Int) != (ys.length : Int)) = true := by rw [bne_iff_ne]; omega
    have HS := Lib.hid (eqB_false (xs := xs) (ys := ys) (fun e => hne (by rw [e])))
    go_enter Try.func33, Try.ntmps33
    go_wp2
    go_ret
    exact ⟨ret_bool HS.out.symm, 0, rfl⟩

theorem law_evs {a b : Value} {xs : List (Nat × Nat)} {w : World} (ha : ES w a xs) (hb : ES w b xs) (hl : xs.length ≤ 100000000) : Calls Try.prog 30 #[a, b] w fun e w' => e = .returned (.bool true) ∧ Below w.heap.size w w' := by
  refine (law_ev a b xs xs w ha hb hl).mono ?_
  rintro e w' ⟨rfl, d, rfl⟩
  exact ⟨by rw [eqB_true rfl], below_drewN (Below.refl _ _) d⟩
theorem law_css {a b : Value} {xs : List Nat} {w : World} (ha : URow w a xs) (hb : URow w b xs) (hl : xs.length ≤ 1000000) : Calls Try.prog 33 #[a, b] w fun e w' => e = .returned (.bool true) ∧ Below w.heap.size w w' := by
  refine (law_cs a b xs xs w ha hb hl).mono ?_
  rintro e w' ⟨rfl, d, rfl⟩
  exact ⟨by rw [eqB_true rfl], below_drewN (Below.refl _ _) d⟩
theorem pnew (n : Nat) (w : World) (h1 : 1 ≤ n) (h2 : n ≤ 65536) : Calls Try.prog 41 #[.int .i64 (n : Int)] w fun e w' => ∃ p F, e = .returned (.tuple #[.pointer (some ⟨p, 0, none⟩), .int .i64 0]) ∧ Ar w' F p (List.replicate n 0) [] [] ∧ Below w.heap.size w w' ∧ ∀ k, F k → w.heap.size ≤ k := new_any n w h1 h2
theorem pr_new {w w1 w2 : World} {Fa Fb : Nat → Prop} {pa pb n : Nat} (ha : Ar w1 Fa pa (List.replicate n 0) [] []) (hb1 : Below w.heap.size w w1) (h1 : ∀ k, Fa k → w.heap.size ≤ k) (hb : Rb w2 Fb pb (List.replicate n 0) [] []) (hb2 : Below w1.heap.size w1 w2) (h2 : ∀ k, Fb k → w1.heap.size ≤ k) :
    Pr w w2 no pa pb (List.replicate n 0) [] [] (List.replicate n 0) [] [] := by
  have la : ∀ k, Fa k → k < w1.heap.size := by obtain ⟨_, _, _, _, h⟩ := ha; exact h.lt
  exact ⟨⟨Fa, Fb, fun k hk => ⟨h1 k hk, fun h => h, fun h => by have := la k hk; have := h2 k h; omega⟩, fun k hk => ⟨Nat.le_trans hb1.size (h2 k hk), fun h => h⟩, ha.below hb2, hb⟩, hb1.trans (hb2.mono hb1.size), fun k h => h.elim⟩
section
variable {w0 W : World} {X : Nat → Prop} {pa pb : Nat} {ca cb : List Nat} {ra rb : List Rg} {ta tb : List (Nat × Nat)}
theorem pa_steps (h : Pr w0 W X pa pb ca ra ta cb rb tb) : Calls Try.prog 34 #[.pointer (some ⟨pa, 0, none⟩)] W fun e w' => e = .returned (.int .i64 (ta.length : Int)) ∧ W = w' := by
  obtain ⟨F, c, pv, rv, pg, hx⟩ := h.arx
  exact steps_any hx
theorem pa_events (h : Pr w0 W X pa pb ca ra ta cb rb tb) : Calls Try.prog 31 #[.pointer (some ⟨pa, 0, none⟩)] W (EvPost W ta) := by
  obtain ⟨F, c, pv, rv, pg, hx⟩ := h.arx
  exact events_any hx
theorem pb_events (h : Pr w0 W X pa pb ca ra ta cb rb tb) : Calls Try.prog 50 #[.pointer (some ⟨pb, 0, none⟩)] W (EvPost W tb) := by
  obtain ⟨F, c, rv, ev, hx⟩ := h.rbx
  exact revents_any hx
def CeP (W : World) (cs : List Nat) (e : Ending) (w' : World) : Prop := ∃ v, e = .returned v ∧ URow w' v cs ∧ Below W.heap.size W w'
theorem pa_cells (h : Pr w0 W X pa pb ca ra ta cb rb tb) : Calls Try.prog 32 #[.pointer (some ⟨pa, 0, none⟩)] W (CeP W ca) := by
  obtain ⟨F, c, pv, rv, pg, hx⟩ := h.arx
  refine (cells_any hx).mono ?_
  rintro e w' ⟨g, c, rfl, _, ho, hb⟩
  exact ⟨_, rfl, ho.row, hb⟩
theorem pb_cells (h : Pr w0 W X pa pb ca ra ta cb rb tb) : Calls Try.prog 49 #[.pointer (some ⟨pb, 0, none⟩)] W (CeP W cb) := by
  obtain ⟨F, c, rv, ev, hx⟩ := h.rbx
  refine (rcells_any hx).mono ?_
  rintro e w' ⟨g, c, rfl, ho, hb⟩
  exact ⟨_, rfl, ho, hb⟩
theorem Pr.okb (h : Pr w0 W X pa pb ca ra ta cb rb tb) : 1 ≤ cb.length ∧ cb.length ≤ 65536 ∧ tb.length ≤ 8388608 := by
  obtain ⟨F, c, rv, ev, hx⟩ := h.rbx
  exact ⟨hx.ncs.1, hx.ncs.2, hx.long⟩
/-- Both arenas are alike: Same says so. -/
theorem same_any (h : Pr w0 W X pa pb ca ra ta ca ra ta) : Calls Try.prog 24 #[.pointer (some ⟨pa, 0, none⟩), .pointer (some ⟨pb, 0, none⟩)] W fun e w' => e = .returned (.bool true) ∧ Below W.heap.size W w' := by
  have hk := h.ok
  have HK := Lib.hid hk
  have PH := Lib.hid h
  clear hk h
  go_enter Try.func24, Try.ntmps24
  go_wp2_with (first
    | (go_at_call 32; (with_reducible refine (pa_cells PH.out).mono ?_); rintro e w1 ⟨v1, rfl, he, hb⟩; have P1 := Lib.hid (PH.out.below hb); have E1 := Lib.hid he; have B1 := Lib.hid hb; clear he hb)
    | (go_at_call 49; (with_reducible refine (pb_cells P1.out).mono ?_); rintro e w2 ⟨v2, rfl, he, hb⟩; have P2 := Lib.hid (P1.out.below hb); have E2 := Lib.hid he; have F1 := Lib.hid (E1.out.below hb); have B2 := Lib.hid (B1.out.trans (hb.mono B1.out.size)); clear he hb)
    | (go_at_call 33; (with_reducible refine (law_css F1.out E2.out (by have := HK.out; omega)).mono ?_); rintro e w3 ⟨rfl, hb⟩; have P3 := Lib.hid (P2.out.below hb); have B3 := Lib.hid (B2.out.trans (hb.mono B2.out.size)); clear hb)
    | (go_at_call 31; (with_reducible refine (pa_events P3.out).mono ?_); rintro e w4 ⟨v4, rfl, he, hb⟩; have P4 := Lib.hid (P3.out.below hb); have E4 := Lib.hid he; have B4 := Lib.hid (B3.out.trans (hb.mono B3.out.size)); clear he hb)
    | (go_at_call 50; (with_reducible refine (pb_events P4.out).mono ?_); rintro e w5 ⟨v5, rfl, he, hb⟩; have P5 := Lib.hid (P4.out.below hb); have E5 := Lib.hid he; have F4 := Lib.hid (E4.out.below hb); have B5 := Lib.hid (B4.out.trans (hb.mono B4.out.size)); clear he hb)
    | (go_at_call 30; (with_reducible refine (law_evs F4.out E5.out (by have := HK.out; omega)).mono ?_); rintro e w6 ⟨rfl, hb⟩; have B6 := Lib.hid (B5.out.trans (hb.mono B5.out.size)); clear hb))
  go_ret
  exact ⟨rfl, B6.out⟩
end
/-- The cells of an arena with these values, and what has been stored so far. -/
def padC (xs : List Nat) (n k : Nat) : List Nat := xs.take k ++ List.replicate (n - k) 0
def padT (k : Nat) : List (Nat × Nat) := (List.range k).map fun i => (2, i)
theorem padC_zero (xs : List Nat) (n : Nat) : padC xs n 0 = List.replicate n 0 := by simp [padC]
theorem padC_len {xs : List Nat} {n k : Nat} (h : k ≤ xs.length) (h2 : xs.length ≤ n) : (padC xs n k).length = n := by simp [padC]; omega
theorem padC_set {xs : List Nat} {n k x : Nat} (hx : xs[k]? = some x) (h2 : xs.length ≤ n) : (padC xs n k).set k x = padC xs n (k + 1) := by
  obtain ⟨hk, rfl⟩ := List.getElem?_eq_some_iff.1 hx
  unfold padC
  rw [List.set_append_right _ _ (by simp; omega), List.take_succ_eq_append_getElem hk, List.length_take, Nat.min_eq_left (by omega), Nat.sub_self, show n - k = (n - (k + 1)) + 1 by omega, List.replicate_succ, List.set_cons_zero, List.append_assoc]
  rfl
theorem padT_succ (k : Nat) : padT (k + 1) = padT k ++ [(2, k)] := by simp [padT, List.range_succ]
theorem padT_len (k : Nat) : (padT k).length = k := by simp [padT]
def arN (xs : List Nat) : Nat := max xs.length 1
def arC (xs : List Nat) : List Nat := padC xs (arN xs) xs.length
def arT (xs : List Nat) : List (Nat × Nat) := padT xs.length
def ArenaP (w : World) (xs : List Nat) (e : Ending) (w' : World) : Prop := ∃ pa pb, e = .returned (.tuple #[.pointer (some ⟨pa, 0, none⟩), .pointer (some ⟨pb, 0, none⟩)]) ∧ Pr w w' no pa pb (arC xs) [] (arT xs) (arC xs) [] (arT xs)
set_option maxRecDepth 100000 in
theorem arena_any (v : Value) (xs : List Nat) (w : World) (hv : URow w v xs) (hw : ∀ x ∈ xs, x < 2 ^ 64) (hl : xs.length ≤ 400) : Calls Try.prog 22 #[v] w (ArenaP w xs) := by
  obtain ⟨q, c, rfl, hc, hx⟩ := hv
  obtain ⟨m, hm⟩ : ∃ m, m = xs.length := ⟨_, rfl⟩
  obtain ⟨n, hn⟩ : ∃ n, n = arN xs := ⟨_, rfl⟩
  have hn1 : 1 ≤ n := by rw [hn]; unfold arN; omega
  have hn2 : n ≤ 65536 := by rw [hn]; unfold arN; omega
  have hmn : m ≤ n := by rw [hn, hm]; unfold arN; omega
  have hnm : n = max m 1 := by rw [hn, hm]; rfl
  have NA := Lib.hid (fun w => pnew n w hn1 hn2)
  have NB := Lib.hid (fun w => rnew_any n w hn1 hn2)
  unfold RNewPost at NB
  rw [← hm] at hl hc ⊢
  have HX := Lib.hid hx
  have HW := Lib.hid hw
  have HM := Lib.hid hm
  have HN := Lib.hid hn
  have HMN := Lib.hid (And.intro hmn hn2)
  clear hx hw hm hn hn2 hmn
  have e1 : (if (m : Int) < 1 then (1 : Int) else (m : Int)) = (n : Int) := by split <;> omega
  have HNM := Lib.hid hnm
  clear hnm
  go_enter Try.func22, Try.ntmps22
  go_wp2_with (first
    | (go_at_call 41; (with_reducible refine (NA.out _).mono ?_); rintro e w1 ⟨pa, Fa, rfl, ha, hb1, hFa⟩; have A1 := Lib.hid ha; have A2 := Lib.hid hb1; have A3 := Lib.hid hFa; clear ha hb1 hFa)
    | (go_at_call 42; (with_reducible refine (NB.out _).mono ?_); rintro e w2 ⟨pb, Fb, rfl, hb, hb2, hFb⟩; have P2 := Lib.hid (pr_new A1.out A2.out A3.out hb hb2 hFb); clear hb hb2 hFb A1 A2 A3))
  clear NA NB e1
  have X2 := Lib.hid (padC_zero xs n)
  go_loopw [9] (fun i wr => ∃ k : Nat, k ≤ m ∧ i = .int .i64 (k : Int) ∧ Hid (Pr w wr no pa pb (padC xs n k) [] (padT k) (padC xs n k) [] (padT k))) (fun i _ => m - (intOf i).toNat)
  case atStart => exact ⟨0, Nat.zero_le _, rfl, Lib.hid (by rw [X2.out]; exact P2.out)⟩
  case round =>
    obtain ⟨k, hk, rfl, hp⟩ := hrel
    clear P2 X2
    by_cases hlt : k < m
    · have t1 : decide ((k : Int) < (m : Int)) = true := decide_eq_true (by omega)
      have t1' : (k : Int) < (m : Int) := by omega
      obtain ⟨x, hx⟩ : ∃ x, xs[k]? = some x := ⟨_, List.getElem?_eq_getElem (by rw [← HM.out]; exact hlt)⟩
      obtain ⟨b, o, hq, hc0⟩ := HX.out k x hx
      subst hq
      have hbl : b < w.heap.size := World.block_lt_of_cell? w ⟨b, o + k, none⟩ hc0
      have x1 := (hp.out.bel.cell (p := ⟨b, o + k, none⟩) hbl).trans hc0
      have HC0 := Lib.hid hc0
      have hL := padC_len (n := n) (k := k) (by rw [← HM.out]; omega) (by rw [← HM.out]; exact HMN.out.1)
      have hS := padC_set hx (by rw [← HM.out]; exact HMN.out.1)
      have hx64 := HW.out x (List.mem_of_getElem? hx)
      have HKM := HMN.out
      have A1 := Lib.hid (pa_store hp.out k x (by rw [hL]; omega) hx64 (by rw [padT_len]; omega))
      have HA2 := Lib.hid (fun (w3 : World) (P3 : Pr w w3 no pa pb (padC xs n (k + 1)) [] (padT (k + 1)) (padC xs n k) [] (padT k)) => pb_store P3 k x (by rw [hL]; omega) (by rw [padT_len]; omega))
      rw [hS, ← padT_succ] at A1
      simp only [hS, ← padT_succ] at HA2
      clear hx hc0 hL hS hx64 HKM
      go_wp2_with (first
        | (go_at_call 43; (with_reducible refine (A1.out).mono ?_); rintro e w3 ⟨rfl, h3, _⟩; have P3 := Lib.hid h3; have x2 := (P3.out.bel.cell (p := ⟨b, o + k, none⟩) hbl).trans HC0.out; clear h3)
        | (go_at_call 44; (with_reducible refine (HA2.out _ P3.out).mono ?_); rintro e w4 ⟨rfl, h4, _⟩; have P4 := Lib.hid h4; clear h4))
      go_roundw
      case rel => exact ⟨k + 1, by omega, by go_num, P4⟩
      case measure => simp [intOf]; omega
    · obtain rfl : k = m := by omega
      have t1 : decide ((k : Int) < (k : Int)) = false := decide_eq_false (by omega)
      go_wp2
      go_ret2
      refine ⟨pa, pb, rfl, ?_⟩
      unfold arC arT
      rw [← HN.out, ← HM.out]
      exact hp.out
end Go.Proofs.Ytalnhbjpfnodiaa
