/- SameEvents, SameRegions, Same. -/
import Derived.Test.YtonkenicikjefaaL
import Derived.Laws.StructEq
import Derived.ChangeKeysEq
namespace Go.Proofs.Ytonkenicikjefaa
open Go.RowKit
theorem eqEv (w : World) (a b c d : Int) : (Op.equalIn 10000 70 (.agg #[.int .i32 a, .int .i32 b]) (.agg #[.int .i32 c, .int .i32 d])).run Try.prog w = .ok (a == c && b == d) w := by
  rw [show (10000 : Nat) = 9999 + 1 from rfl, run_equalIn_agg w 9999 _ _ _ (by kernel_rfl) (by kernel_rfl)]
  unfold Program.fieldsOf
  simp [Op.eqFields, go_sem]
  by_cases h1 : a = c <;> by_cases h2 : b = d <;> simp [h1, h2]
theorem guardEv (op : BinOp) (x y : Operand) (xs ys : Array Value) (w : World) : (eqGuard op 70 x y (.agg xs) (.agg ys)).run Try.prog w = .ok () w := run_eqGuard_agg w op _ x y xs ys (by kernel_rfl)
theorem eqRg (w : World) (a b : ByteArray) (c d e f : Int) : (Op.equalIn 10000 55 (.agg #[.string a, .int .i64 c, .int .i64 d]) (.agg #[.string b, .int .i64 e, .int .i64 f])).run Try.prog w = .ok (a.toList == b.toList && c == e && d == f) w := by
  rw [show (10000 : Nat) = 9999 + 1 from rfl, run_equalIn_agg w 9999 _ _ _ (by kernel_rfl) (by kernel_rfl)]
  unfold Program.fieldsOf
  simp [Op.eqFields, go_sem]
  by_cases h1 : a.toList = b.toList <;> by_cases h2 : c = e <;> by_cases h3 : d = f <;> simp [h1, h2, h3]
theorem guardRg (op : BinOp) (x y : Operand) (xs ys : Array Value) (w : World) : (eqGuard op 55 x y (.agg xs) (.agg ys)).run Try.prog w = .ok () w := run_eqGuard_agg w op _ x y xs ys (by kernel_rfl)
theorem drewN_drewN (w : World) (a b : Nat) : (w.drewN a).drewN b = w.drewN (a + b) := by simp [World.drewN, Nat.add_assoc]
theorem take_ne {α : Type} {xs ys : List α} {k : Nat} {x y : α} (hx : xs[k]? = some x) (hy : ys[k]? = some y) (h : x ≠ y) : ¬ xs = ys := by
  rintro rfl; rw [hx] at hy; cases hy; exact h rfl
theorem take_eq {α : Type} {xs ys : List α} {k : Nat} {x y : α} (hx : xs[k]? = some x) (hy : ys[k]? = some y) (h : x = y) (hd : xs.take k = ys.take k) : xs.take (k + 1) = ys.take (k + 1) := by
  rw [List.take_add_one, List.take_add_one, hx, hy, hd, h]
theorem take_all {α : Type} {xs ys : List α} {n : Nat} (h1 : n = xs.length) (h2 : n = ys.length) (h : xs.take n = ys.take n) : xs = ys := by
  rwa [List.take_of_length_le (by omega), List.take_of_length_le (by omega)] at h
theorem below_drewN {B : Nat} {w w' : World} (h : Below B w w') (n : Nat) : Below B w (w'.drewN n) := ⟨h.os, h.tape, h.output, h.size, h.block⟩
attribute [local go_sem] guardEv guardRg
open Classical in
/-- What a comparison of two lists returns. -/
noncomputable def eqB {α : Type} (xs ys : List α) : Bool := decide (xs = ys)
theorem eqB_true {α : Type} {xs ys : List α} (h : xs = ys) : eqB xs ys = true := by unfold eqB; simp [h]
theorem eqB_false {α : Type} {xs ys : List α} (h : ¬ xs = ys) : eqB xs ys = false := by unfold eqB; simp [h]
theorem ev_ne {x y : Nat × Nat} (h : ¬ x = y) : ((x.1 : Int) == (y.1 : Int) && (x.2 : Int) == (y.2 : Int)) = false := by
  rw [Bool.and_eq_false_iff]
  by_cases e1 : x.1 = y.1
  · right
    have : ¬ x.2 = y.2 := fun e2 => h (Prod.ext e1 e2)
    rw [beq_eq_false_iff_ne]; omega
  · left
    rw [beq_eq_false_iff_ne]; omega
theorem rg_ne {x y : Rg} (h : ¬ x = y) : (x.name.toList == y.name.toList && (x.base : Int) == (y.base : Int) && (x.size : Int) == (y.size : Int)) = false := by
  rw [Bool.eq_false_iff]
  intro e
  simp only [Bool.and_eq_true] at e
  obtain ⟨⟨e1, e2⟩, e3⟩ := e
  have e1 : x.name.toList = y.name.toList := by simpa using e1
  have e2 : (x.base : Int) = (y.base : Int) := by simpa using e2
  have e3 : (x.size : Int) = (y.size : Int) := by simpa using e3
  have e1 : x.name = y.name := by
    rw [Lib.toList_data, Lib.toList_data] at e1
    exact ByteArray.ext (Array.ext' e1)
  apply h
  cases x; cases y
  simp only [Rg.mk.injEq]
  exact ⟨e1, Int.ofNat.inj e2, Int.ofNat.inj e3⟩
set_option maxRecDepth 100000 in
theorem same_ev (a b : Value) (xs ys : List (Nat × Nat)) (w : World) (ha : ES w a xs) (hb : ES w b ys) (hl : xs.length ≤ 100000000) :
    Calls Try.prog 17 #[a, b] w fun e w' => e = .returned (.bool (eqB xs ys)) ∧ ∃ d, w' = w.drewN d := by
  obtain ⟨p1, c1, rfl, ha⟩ := ha
  obtain ⟨p2, c2, rfl, hb⟩ := hb
  by_cases hne : xs.length = ys.length
  · obtain ⟨n, hn⟩ : ∃ n, n = xs.length := ⟨_, rfl⟩
    have hn2 : n = ys.length := hn.trans hne
    have hne2 : ((n : Int) != (n : Int)) = false := by simp
    rw [← hn] at hl
    rw [← hn, ← hn2]
    have HA := Lib.hid ha
    have HB := Lib.hid hb
    have HN := Lib.hid hn
    have HN2 := Lib.hid hn2
    clear ha hb hn hn2 hne
    go_enter Try.func17, Try.ntmps17
    go_wp2
    go_loopw [5] (fun i wr => ∃ k : Nat, k ≤ n ∧ i = .int .i64 k ∧ Hid (xs.take k = ys.take k) ∧ ∃ d, wr = w.drewN d) (fun i _ => n - (intOf i).toNat)
    case atStart => exact ⟨0, Nat.zero_le _, rfl, Lib.hid rfl, 0, rfl⟩
    case round =>
      obtain ⟨k, hk, rfl, hd, d, rfl⟩ := hrel
      by_cases hlt : k < n
      · obtain ⟨x, hx⟩ : ∃ x, xs[k]? = some x := ⟨_, List.getElem?_eq_getElem (by rw [← HN.out]; exact hlt)⟩
        obtain ⟨y, hy⟩ : ∃ y, ys[k]? = some y := ⟨_, List.getElem?_eq_getElem (by rw [← HN2.out]; exact hlt)⟩
        obtain ⟨b1, o1, rfl, x0, x1, _⟩ := HA.out k x hx
        obtain ⟨b2, o2, rfl, y0, y1, _⟩ := HB.out k y hy
        have HX := Lib.hid hx
        have HY := Lib.hid hy
        clear hx hy
        have hltb : decide ((k : Int) < (n : Int)) = true := decide_eq_true (by omega)
        by_cases hxy : x = y
        · have HXY := Lib.hid hxy
          have ht : ∀ W : World, (Op.equalIn 10000 70 (.agg #[.int .i32 (x.1 : Int), .int .i32 (x.2 : Int)]) (.agg #[.int .i32 (y.1 : Int), .int .i32 (y.2 : Int)])).run Try.prog W = .ok true W := fun W => by (rw [eqEv, HXY.out]; simp)
          clear hxy
          go_wp2
          go_quiet (fail)
          go_wp2
          go_roundw
          case rel => exact ⟨k + 1, by omega, by go_num, Lib.hid (take_eq HX.out HY.out HXY.out hd.out), _, rfl⟩
          case measure => simp [intOf]; omega
        · have ht : ∀ W : World, (Op.equalIn 10000 70 (.agg #[.int .i32 (x.1 : Int), .int .i32 (x.2 : Int)]) (.agg #[.int .i32 (y.1 : Int), .int .i32 (y.2 : Int)])).run Try.prog W = .ok false W := fun W => by (rw [eqEv, ev_ne hxy])
          have HK := Lib.hid (eqB_false (take_ne HX.out HY.out hxy))
          clear hxy
          go_wp2
          go_quiet (fail)
          go_wp2
          go_ret
          exact ⟨ret_bool HK.out.symm, _, drewN_drewN _ _ _⟩
      · have hltb : decide ((k : Int) < (n : Int)) = false := decide_eq_false (by omega)
        obtain rfl : k = n := by omega
        have HS := Lib.hid (eqB_true (take_all HN.out HN2.out hd.out))
        go_wp2
        go_ret
        exact ⟨ret_bool HS.out.symm, d, rfl⟩
  · have hne2 : ((xs.length : Int) != (ys.length : Int)) = true := by rw [bne_iff_ne]; omega
    have HS := Lib.hid (eqB_false (xs := xs) (ys := ys) (fun e => hne (by rw [e])))
    go_enter Try.func17, Try.ntmps17
    go_wp2
    go_ret
    exact ⟨ret_bool HS.out.symm, 0, rfl⟩
set_option maxRecDepth 100000 in
theorem same_rg (a b : Value) (xs ys : List Rg) (w : World) (ha : RS w a xs) (hb : RS w b ys) (hl : xs.length ≤ 100000000) :
    Calls Try.prog 20 #[a, b] w fun e w' => e = .returned (.bool (eqB xs ys)) ∧ ∃ d, w' = w.drewN d := by
  obtain ⟨p1, c1, rfl, ha⟩ := ha
  obtain ⟨p2, c2, rfl, hb⟩ := hb
  by_cases hne : xs.length = ys.length
  · obtain ⟨n, hn⟩ : ∃ n, n = xs.length := ⟨_, rfl⟩
    have hn2 : n = ys.length := hn.trans hne
    have hne2 : ((n : Int) != (n : Int)) = false := by simp
    rw [← hn] at hl
    rw [← hn, ← hn2]
    have HA := Lib.hid ha
    have HB := Lib.hid hb
    have HN := Lib.hid hn
    have HN2 := Lib.hid hn2
    clear ha hb hn hn2 hne
    go_enter Try.func20, Try.ntmps20
    go_wp2
    go_loopw [5] (fun i wr => ∃ k : Nat, k ≤ n ∧ i = .int .i64 k ∧ Hid (xs.take k = ys.take k) ∧ ∃ d, wr = w.drewN d) (fun i _ => n - (intOf i).toNat)
    case atStart => exact ⟨0, Nat.zero_le _, rfl, Lib.hid rfl, 0, rfl⟩
    case round =>
      obtain ⟨k, hk, rfl, hd, d, rfl⟩ := hrel
      by_cases hlt : k < n
      · obtain ⟨x, hx⟩ : ∃ x, xs[k]? = some x := ⟨_, List.getElem?_eq_getElem (by rw [← HN.out]; exact hlt)⟩
        obtain ⟨y, hy⟩ : ∃ y, ys[k]? = some y := ⟨_, List.getElem?_eq_getElem (by rw [← HN2.out]; exact hlt)⟩
        obtain ⟨b1, o1, rfl, x0, x1, x2, _⟩ := HA.out k x hx
        obtain ⟨b2, o2, rfl, y0, y1, y2, _⟩ := HB.out k y hy
        have HX := Lib.hid hx
        have HY := Lib.hid hy
        clear hx hy
        have hltb : decide ((k : Int) < (n : Int)) = true := decide_eq_true (by omega)
        by_cases hxy : x = y
        · have HXY := Lib.hid hxy
          have ht : ∀ W : World, (Op.equalIn 10000 55 (.agg #[.string x.name, .int .i64 (x.base : Int), .int .i64 (x.size : Int)]) (.agg #[.string y.name, .int .i64 (y.base : Int), .int .i64 (y.size : Int)])).run Try.prog W = .ok true W := fun W => by (rw [eqRg, HXY.out]; simp)
          clear hxy
          go_wp2
          go_quiet (fail)
          go_wp2
          go_roundw
          case rel => exact ⟨k + 1, by omega, by go_num, Lib.hid (take_eq HX.out HY.out HXY.out hd.out), _, rfl⟩
          case measure => simp [intOf]; omega
        · have ht : ∀ W : World, (Op.equalIn 10000 55 (.agg #[.string x.name, .int .i64 (x.base : Int), .int .i64 (x.size : Int)]) (.agg #[.string y.name, .int .i64 (y.base : Int), .int .i64 (y.size : Int)])).run Try.prog W = .ok false W := fun W => by (rw [eqRg, rg_ne hxy])
          have HK := Lib.hid (eqB_false (take_ne HX.out HY.out hxy))
          clear hxy
          go_wp2
          go_quiet (fail)
          go_wp2
          go_ret
          exact ⟨ret_bool HK.out.symm, _, drewN_drewN _ _ _⟩
      · have hltb : decide ((k : Int) < (n : Int)) = false := decide_eq_false (by omega)
        obtain rfl : k = n := by omega
        have HS := Lib.hid (eqB_true (take_all HN.out HN2.out hd.out))
        go_wp2
        go_ret
        exact ⟨ret_bool HS.out.symm, d, rfl⟩
  · have hne2 : ((xs.length : Int) != (ys.length : Int)) = true := by rw [bne_iff_ne]; omega
    have HS := Lib.hid (eqB_false (xs := xs) (ys := ys) (fun e => hne (by rw [e])))
    go_enter Try.func20, Try.ntmps20
    go_wp2
    go_ret
    exact ⟨ret_bool HS.out.symm, 0, rfl⟩
theorem same_u64 (a b : Value) (xs ys : List Nat) (w : World) (ha : URow w a xs) (hb : URow w b ys) (hl : xs.length ≤ 1000000) :
    Calls Try.prog 23 #[a, b] w fun e w' => e = .returned (.bool (eqB xs ys)) ∧ ∃ d, w' = w.drewN d := by
  obtain ⟨p1, c1, rfl, _, ha⟩ := ha
  obtain ⟨p2, c2, rfl, _, hb⟩ := hb
  by_cases hne : xs.length = ys.length
  · obtain ⟨n, hn⟩ : ∃ n, n = xs.length := ⟨_, rfl⟩
    have hn2 : n = ys.length := hn.trans hne
    have hne2 : ((n : Int) != (n : Int)) = false := by simp
    rw [← hn] at hl
    rw [← hn, ← hn2]
    have HA := Lib.hid ha
    have HB := Lib.hid hb
    have HN := Lib.hid hn
    have HN2 := Lib.hid hn2
    clear ha hb hn hn2 hne
    go_enter Try.func23, Try.ntmps23
    go_wp2
    go_loopw [5] (fun i wr => ∃ k : Nat, k ≤ n ∧ i = .int .i64 k ∧ Hid (xs.take k = ys.take k) ∧ ∃ d, wr = w.drewN d) (fun i _ => n - (intOf i).toNat)
    case atStart => exact ⟨0, Nat.zero_le _, rfl, Lib.hid rfl, 0, rfl⟩
    case round =>
      obtain ⟨k, hk, rfl, hd, d, rfl⟩ := hrel
      by_cases hlt : k < n
      · obtain ⟨x, hx⟩ : ∃ x, xs[k]? = some x := ⟨_, List.getElem?_eq_getElem (by rw [← HN.out]; exact hlt)⟩
        obtain ⟨y, hy⟩ : ∃ y, ys[k]? = some y := ⟨_, List.getElem?_eq_getElem (by rw [← HN2.out]; exact hlt)⟩
        obtain ⟨b1, o1, rfl, x0⟩ := HA.out k x hx
        obtain ⟨b2, o2, rfl, y0⟩ := HB.out k y hy
        have HX := Lib.hid hx
        have HY := Lib.hid hy
        clear hx hy
        have hltb : decide ((k : Int) < (n : Int)) = true := decide_eq_true (by omega)
        by_cases hxy : x = y
        · have ht : ((x : Int) != (y : Int)) = false := by simp [hxy]
          have HXY := Lib.hid hxy
          clear hxy
          go_wp2
          go_quiet (fail)
          go_wp2
          go_roundw
          case rel => exact ⟨k + 1, by omega, by go_num, Lib.hid (take_eq HX.out HY.out HXY.out hd.out), _, rfl⟩
          case measure => simp [intOf]; omega
        · have ht : ((x : Int) != (y : Int)) = true := by rw [bne_iff_ne]; omega
          have HK := Lib.hid (eqB_false (take_ne HX.out HY.out hxy))
          clear hxy
          go_wp2
          go_quiet (fail)
          go_wp2
          go_ret
          exact ⟨ret_bool HK.out.symm, _, drewN_drewN _ _ _⟩
      · have hltb : decide ((k : Int) < (n : Int)) = false := decide_eq_false (by omega)
        obtain rfl : k = n := by omega
        have HS := Lib.hid (eqB_true (take_all HN.out HN2.out hd.out))
        go_wp2
        go_ret
        exact ⟨ret_bool HS.out.symm, d, rfl⟩
  · have hne2 : ((xs.length : Int) != (ys.length : Int)) = true := by rw [bne_iff_ne]; omega
    have HS := Lib.hid (eqB_false (xs := xs) (ys := ys) (fun e => hne (by rw [e])))
    go_enter Try.func23, Try.ntmps23
    go_wp2
    go_ret
    exact ⟨ret_bool HS.out.symm, 0, rfl⟩
end Go.Proofs.Ytonkenicikjefaa
