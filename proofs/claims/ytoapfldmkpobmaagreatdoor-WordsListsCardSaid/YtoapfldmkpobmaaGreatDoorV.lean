/- Layer 1: Same. -/
import Derived.Test.YtoapfldmkpobmaaGreatDoorU
import Derived.BigQuiet
import Derived.Laws.StructEq
namespace Go.Proofs.YtoapfldmkpobmaaGreatDoor
open Go.RowKit
def keyI (x : Item) : List UInt8 × Bool := (x.s, x.q)
def sameL (xs ys : List Item) : Bool := decide (xs.map keyI = ys.map keyI)
/-- A slice of fields in memory. -/
def FSl (W : World) (v : Value) (xs : List Item) : Prop :=
  ∃ p c, v = .slice p xs.length c ∧ ∀ i x, xs[i]? = some x → ∃ b o, p = some ⟨b, o, none⟩ ∧ W.cell? ⟨b, o + i * 2, none⟩ = some (.string ⟨x.s.toArray⟩) ∧ W.cell? ⟨b, o + i * 2 + 1, none⟩ = some (.bool x.q)
theorem same_len {xs ys : List Item} (h : xs.length ≠ ys.length) : sameL xs ys = false := by
  unfold sameL
  rw [decide_eq_false_iff_not]
  intro e; have := congrArg List.length e; simp at this; exact h this
theorem same_at {xs ys : List Item} {k : Nat} {x y : Item} (hx : xs[k]? = some x) (hy : ys[k]? = some y) (h : keyI x ≠ keyI y) : sameL xs ys = false := by
  unfold sameL
  rw [decide_eq_false_iff_not]
  intro e; have := congrArg (fun l => l[k]?) e
  simp [hx, hy] at this; exact h this
theorem take_one {xs : List Item} {k : Nat} {x : Item} (hx : xs[k]? = some x) : (xs.take (k + 1)).map keyI = (xs.take k).map keyI ++ [keyI x] := by
  have hk : k < xs.length := (List.getElem?_eq_some_iff.1 hx).1
  rw [List.take_succ_eq_append_getElem hk, List.map_append]
  have : xs[k] = x := (List.getElem?_eq_some_iff.1 hx).2
  rw [this]; rfl
theorem drewN_drewN (w : World) (a b : Nat) : (w.drewN a).drewN b = w.drewN (a + b) := by simp [World.drewN, Nat.add_assoc]
theorem F_under : Tryz.prog.underlying 39 = some (.struct (Tryz.prog.fieldsOf 39)) := by kernel_rfl
theorem F_stood : Tryz.prog.stoodInHeld 39 = false := by kernel_rfl
theorem F_guard : Tryz.prog.eqGuardType Tryz.prog.depth 39 = false := by kernel_rfl
attribute [local go_sem] F_stood F_guard
theorem mk_inj {a b : List UInt8} : (⟨a.toArray⟩ : ByteArray).toList = (⟨b.toArray⟩ : ByteArray).toList ↔ a = b := by
  rw [toList_data, toList_data]
set_option maxRecDepth 100000 in
theorem same_any (a b : Value) (xs ys : List Item) (w : World) (ha : FSl w a xs) (hb : FSl w b ys) (hl : xs.length ≤ 1000000) :
    Calls Tryz.prog 13 #[a, b] w fun e w' => e = .returned (.bool (sameL xs ys)) ∧ ∃ d, w' = w.drewN d := by
  obtain ⟨p1, c1, rfl, ha⟩ := ha
  obtain ⟨p2, c2, rfl, hb⟩ := hb
  by_cases hne : xs.length = ys.length
  · obtain ⟨n, hn⟩ : ∃ n, n = xs.length := ⟨_, rfl⟩
    have hn2 : n = ys.length := hn.trans hne
    have hne2 : ((n : Int) != (n : Int)) = false := by simp
    rw [← hn] at hl
    rw [← hn, ← hn2]
    have HA := Lib.hid ha
    have HB := Lib.hid hb
    have HN := Lib.hid hn
    have HN2 := Lib.hid hn2
    clear ha hb hn hn2 hne
    go_enter Tryz.func13, Tryz.ntmps13
    go_wp2
    go_loopw [5] (fun i wr => ∃ k : Nat, k ≤ n ∧ i = .int .i64 k ∧ Hid ((xs.take k).map keyI = (ys.take k).map keyI) ∧ ∃ d, wr = w.drewN d) (fun i _ => n - (intOf i).toNat)
    case atStart => exact ⟨0, Nat.zero_le _, rfl, Lib.hid rfl, 0, rfl⟩
    case round =>
      obtain ⟨k, hk, rfl, hd, d, rfl⟩ := hrel
      by_cases hlt : k < n
      · obtain ⟨x, hx⟩ : ∃ x, xs[k]? = some x := ⟨_, List.getElem?_eq_getElem (by rw [← HN.out]; exact hlt)⟩
        obtain ⟨y, hy⟩ : ∃ y, ys[k]? = some y := ⟨_, List.getElem?_eq_getElem (by rw [← HN2.out]; exact hlt)⟩
        obtain ⟨b1, o1, rfl, x0, x1⟩ := HA.out k x hx
        obtain ⟨b2, o2, rfl, y0, y1⟩ := HB.out k y hy
        have HX := Lib.hid hx
        have HY := Lib.hid hy
        clear hx hy
        have hltb : decide ((k : Int) < (n : Int)) = true := decide_eq_true (by omega)
        obtain ⟨S, hS⟩ : ∃ S : ByteArray, S = ⟨x.s.toArray⟩ := ⟨_, rfl⟩
        obtain ⟨T, hT⟩ : ∃ T : ByteArray, T = ⟨y.s.toArray⟩ := ⟨_, rfl⟩
        obtain ⟨q, hq⟩ : ∃ q, q = x.q := ⟨_, rfl⟩
        obtain ⟨r, hr⟩ : ∃ q, q = y.q := ⟨_, rfl⟩
        rw [← hS] at x0
        rw [← hq] at x1
        rw [← hT] at y0
        rw [← hr] at y1
        have hiff : S.toList = T.toList ↔ x.s = y.s := by rw [hS, hT]; exact mk_inj
        have HI := Lib.hid hiff
        have HQ := Lib.hid hq
        have HR := Lib.hid hr
        clear hS hT hq hr hiff
        by_cases hst : S.toList = T.toList
        · have HST := Lib.hid hst
          by_cases hqr : q = r
          · have hk' : keyI x = keyI y := by unfold keyI; rw [HI.out.1 HST.out, ← HQ.out, ← HR.out, hqr]
            have HK := Lib.hid hk'
            clear hk'
            go_wp2
            go_quiet (fail)
            go_wp2
            go_roundw
            case rel => exact ⟨k + 1, by omega, by go_num, Lib.hid (by rw [take_one HX.out, take_one HY.out, hd.out, HK.out]), _, rfl⟩
            case measure => simp [intOf]; omega
          · have hk' : keyI x ≠ keyI y := by unfold keyI; intro e; rw [← HQ.out, ← HR.out] at e; exact hqr (Prod.mk.inj e).2
            have HK := Lib.hid (same_at HX.out HY.out hk')
            clear hk'
            go_wp2
            go_quiet (fail)
            go_wp2
            go_ret
            exact ⟨ret_bool HK.out.symm, _, drewN_drewN _ _ _⟩
        · have hk' : keyI x ≠ keyI y := by unfold keyI; intro e; exact hst (HI.out.2 (Prod.mk.inj e).1)
          have HK := Lib.hid (same_at HX.out HY.out hk')
          clear hk'
          go_wp2
          go_quiet (fail)
          go_wp2
          go_ret
          exact ⟨ret_bool HK.out.symm, _, drewN_drewN _ _ _⟩
      · have hltb : decide ((k : Int) < (n : Int)) = false := decide_eq_false (by omega)
        obtain rfl : k = n := by omega
        have hs : sameL xs ys = true := by
          unfold sameL
          have h := hd.out
          rw [List.take_of_length_le (by rw [HN.out]; exact Nat.le_refl _), List.take_of_length_le (by rw [HN2.out]; exact Nat.le_refl _)] at h
          rw [h]; simp
        have HS := Lib.hid hs
        clear hs
        go_wp2
        go_ret
        exact ⟨ret_bool HS.out.symm, d, rfl⟩
  · have hne2 : ((xs.length : Int) != (ys.length : Int)) = true := by rw [bne_iff_ne]; omega
    have HS := Lib.hid (same_len hne)
    go_enter Tryz.func13, Tryz.ntmps13
    go_wp2
    go_ret
    exact ⟨ret_bool HS.out.symm, 0, rfl⟩
end Go.Proofs.YtoapfldmkpobmaaGreatDoor
