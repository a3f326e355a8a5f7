/- Layer 4: the reference's Ints; the law's closed calls. -/
import Derived.Test.YtnpfdnpklopnkaaFH
namespace Go.Proofs.Ytnpfdnpklopnkaa
open Go.RowKit
attribute [local go_sem] eq4 guard4
set_option maxHeartbeats 800000 in
set_option maxRecDepth 100000 in
theorem ints_any (v u : Value) (xs ys : List Nat) (w : World) (hv : NR w v xs) (hu : NR w u ys) (hx : xs.length ≤ 2000000000) (hy : ys.length ≤ 2000000000) : Calls Try.prog 37 #[v, u] w (NumP w (.bool (xs == ys))) := by
  have HV := Lib.hid hv
  have HU := Lib.hid hu
  obtain ⟨p, c, rfl, hc, _⟩ := hv
  obtain ⟨q, d, rfl, hd, _⟩ := hu
  clear hc hd
  by_cases hl : xs.length = ys.length
  · obtain ⟨n, hn⟩ : ∃ n, n = xs.length := ⟨_, rfl⟩
    have HN := Lib.hid hn
    have HM := Lib.hid (hn.trans hl)
    rw [← hl, ← hn]
    rw [← hn] at hx
    clear hn hl hy
    go_enter Try.func37, Try.ntmps37
    go_wp2
    go_loopw [5] (fun i wr => ∃ k : Nat, k ≤ n ∧ i = .int .i64 (k : Int) ∧ xs.take k = ys.take k ∧ Below w.heap.size w wr) (fun i _ => n - (intOf i).toNat)
    case atStart => exact ⟨0, Nat.zero_le _, rfl, by simp, Below.refl _ _⟩
    case round =>
      obtain ⟨k, hk, rfl, he, hb⟩ := hrel
      by_cases hlt : k < n
      · have hltb : decide ((k : Int) < (n : Int)) = true := decide_eq_true (by omega)
        have hkn : (k : Int) < (n : Int) := by omega
        obtain ⟨x, hxk⟩ : ∃ x, xs[k]? = some x := ⟨_, List.getElem?_eq_getElem (by rw [← HN.out]; exact hlt)⟩
        obtain ⟨y, hyk⟩ : ∃ y, ys[k]? = some y := ⟨_, List.getElem?_eq_getElem (by rw [← HM.out]; exact hlt)⟩
        obtain ⟨g, o, c', ev, hgw, hcells⟩ := HV.out.form (by rw [← HN.out]; omega)
        obtain ⟨g2, o2, c2, ev2, hgw2, hcells2⟩ := HU.out.form (by rw [← HM.out]; omega)
        have hpp : p = some ⟨g, o, none⟩ := by cases ev; rfl
        have hqq : q = some ⟨g2, o2, none⟩ := by cases ev2; rfl
        subst hpp
        subst hqq
        have hck := (hb.cell (p := ⟨g, o + k, none⟩) hgw).trans (hcells k x hxk)
        have hdk := (hb.cell (p := ⟨g2, o2 + k, none⟩) hgw2).trans (hcells2 k y hyk)
        have HE := Lib.hid he
        have HX := Lib.hid hxk
        have HY := Lib.hid hyk
        clear hcells hcells2 ev ev2 he hxk hyk
        by_cases hxy : x = y
        · have hxyb : ((x : Int) != (y : Int)) = false := by simp [hxy]
          have HXY := Lib.hid hxy
          clear hxy
          go_wp2
          go_quiet (fail)
          go_wp2
          go_roundw
          case rel => exact ⟨k + 1, by omega, by go_num, by rw [List.take_add_one, List.take_add_one, HE.out, HX.out, HY.out, HXY.out], hb.trans ⟨rfl, rfl, rfl, Nat.le_refl _, fun _ _ => rfl⟩⟩
          case measure => simp [intOf]; omega
        · have hxyb : ((x : Int) != (y : Int)) = true := by simp; omega
          have R := Lib.hid (show (xs == ys) = false by
            rw [beq_eq_false_iff_ne]; rintro rfl; rw [HX.out] at HY; exact hxy (Option.some.inj HY.out))
          clear hxy
          go_wp2
          go_quiet (fail)
          go_wp2
          go_ret
          exact ⟨ret_bool R.out.symm, hb.trans ⟨rfl, rfl, rfl, Nat.le_refl _, fun _ _ => rfl⟩⟩
      · obtain rfl : k = n := by omega
        have hltb : decide ((k : Int) < (k : Int)) = false := decide_eq_false (by omega)
        have R := Lib.hid (show (xs == ys) = true by
          rw [beq_iff_eq]
          have h1 := HN.out; have h2 := HM.out
          rw [List.take_of_length_le (by omega), List.take_of_length_le (by omega)] at he
          exact he)
        clear he
        go_wp2
        go_ret
        exact ⟨ret_bool R.out.symm, hb⟩
  · have hlb : ((xs.length : Int) != (ys.length : Int)) = true := by simp; omega
    have R := Lib.hid (show (xs == ys) = false by rw [beq_eq_false_iff_ne]; rintro rfl; exact hl rfl)
    clear hl
    generalize xs.length = n at *
    generalize ys.length = m at *
    go_enter Try.func37, Try.ntmps37
    go_wp2
    go_ret
    exact ⟨ret_bool R.out.symm, Below.refl _ _⟩
end Go.Proofs.Ytnpfdnpklopnkaa
