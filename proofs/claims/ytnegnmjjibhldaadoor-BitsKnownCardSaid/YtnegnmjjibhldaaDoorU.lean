/- Layer 2: Parse of the reference. -/
import Derived.Test.YtnegnmjjibhldaaDoorS
namespace Go.Proofs.YtnegnmjjibhldaaDoor
open Go.RowKit
def rowAt (l : List UInt8) (i n : Nat) : List Nat := (List.range n).map fun k => hv (segTo l i (n - 1 - k))
theorem rowAt_len (l : List UInt8) (i n : Nat) : (rowAt l i n).length = n := by simp [rowAt]
theorem rowAt_get (l : List UInt8) (i n k : Nat) (h : k < n) : (rowAt l i n).getD k 0 = hv (segTo l i (n - 1 - k)) := by
  rw [List.getD_eq_getElem?_getD, List.getElem?_eq_getElem (by rw [rowAt_len]; exact h)]
  simp [rowAt]
theorem rowAt_zero (l : List UInt8) (n : Nat) : rowAt l 0 n = List.replicate n 0 := by
  apply List.ext_getElem (by simp [rowAt])
  intro j h1 h2
  simp [rowAt, segTo_zero, hv]
theorem rowAt_dot {l : List UInt8} {i n : Nat} (hi : i < l.length) (h : i % 17 = 16) : rowAt l (i + 1) n = rowAt l i n := by
  unfold rowAt
  apply List.map_congr_left
  intro k _
  rw [segTo_same hi (fun e => e.2 h)]
theorem rowAt_step {l : List UInt8} {i n k : Nat} (hi : i < l.length) (h : i % 17 ≠ 16) (hk : k + 1 + i / 17 = n) : (rowAt l i n).set k (16 * hv (segTo l i (i / 17)) + (dig l[i]).toNat) = rowAt l (i + 1) n := by
  apply List.ext_getElem (by simp [rowAt])
  intro j h1 h2
  have hj : j < n := by rw [rowAt_len] at h2; exact h2
  rw [List.getElem_set]
  simp only [rowAt, List.getElem_map, List.getElem_range]
  by_cases e : k = j
  · subst e
    rw [if_pos rfl, show n - 1 - k = i / 17 by omega, segTo_step hi h, hv_snoc]
  · rw [if_neg e, segTo_same hi (fun hh => by omega)]
theorem segTo_lt {l : List UInt8} {i : Nat} (hi : i < l.length) (h : i % 17 ≠ 16) : hv (segTo l i (i / 17)) < 1152921504606846976 := by
  have hl : (segTo l i (i / 17)).length ≤ 15 := by unfold segTo; rw [List.length_take, List.length_drop, List.length_take]; omega
  exact Nat.lt_of_lt_of_le (hv_lt _) (Nat.pow_le_pow_right (by omega) hl)
theorem rowAt_all {l : List UInt8} {n : Nat} (hl : l.length + 1 = 17 * (n + 1)) (h : okI l l.length) : rowAt l l.length (n + 1) = parseRow (parts l) := by
  rw [parts_seg n l hl h]
  unfold rowAt parseRow
  rw [List.length_map, List.length_range]
  apply List.map_congr_left
  intro k hk
  rw [List.mem_range] at hk
  rw [segTo_all, List.getD_eq_getElem?_getD, List.getElem?_map, List.getElem?_range (by omega)]; rfl
theorem okI_step {l : List UInt8} {i : Nat} (h : okI l i) (hi : i < l.length) (hs : if i % 17 = 16 then l[i] = 46 else 0 ≤ dig l[i]) : okI l (i + 1) := by
  intro j hj
  by_cases e : j = i
  · subst e
    rw [List.getD_eq_getElem?_getD, List.getElem?_eq_getElem hi]; exact hs
  · exact h j (by omega)
theorem okI_not {l : List UInt8} {i : Nat} (hi : i < l.length) (hs : ¬ if i % 17 = 16 then l[i] = 46 else 0 ≤ dig l[i]) : ¬ okI l l.length := by
  intro h
  have := h i hi
  rw [List.getD_eq_getElem?_getD, List.getElem?_eq_getElem hi] at this
  exact hs this
set_option maxHeartbeats 400000 in
set_option maxRecDepth 100000 in
theorem rparse_any (s : ByteArray) (w : World) (hs : s.size ≤ maxLen) : Calls Tryd.prog 10 #[.string s] w (RowPost w (parseR s.data.toList) (parseE s.data.toList)) := by
  unfold maxLen at hs
  have hlen : s.data.toList.length = s.size := by simp
  by_cases h135 : 135 < s.size
  · have hb : decide ((135 : Int) < (s.size : Int)) = true := decide_eq_true (by omega)
    have E := Lib.hid (show parseE s.data.toList = 3 by unfold parseE; rw [hlen, if_pos h135])
    have R := Lib.hid (show parseR s.data.toList = [] by unfold parseR; rw [E.out]; rfl)
    clear h135 hlen hs
    go_enter Tryd.func10, Tryd.ntmps10
    go_wp2
    go_ret2
    exact ⟨.slice none 0 0, by rw [E.out]; rfl, by rw [R.out]; exact URow.none _, Below.refl _ _⟩
  · have hb : decide ((135 : Int) < (s.size : Int)) = false := decide_eq_false (by omega)
    have EK := Lib.hid (show (parts s.data.toList).all okP = true → parseE s.data.toList = 0 ∧ parseR s.data.toList = parseRow (parts s.data.toList) from fun h => by
      have e : parseE s.data.toList = 0 := by unfold parseE; rw [hlen, if_neg h135, if_pos h]
      exact ⟨e, by unfold parseR; rw [if_pos e]⟩)
    have EN := Lib.hid (show ¬ (parts s.data.toList).all okP = true → parseE s.data.toList = 6 ∧ parseR s.data.toList = [] from fun h => by
      have e : parseE s.data.toList = 6 := by unfold parseE; rw [hlen, if_neg h135, if_neg h]
      exact ⟨e, by unfold parseR; rw [if_neg (by rw [e]; decide)]⟩)
    by_cases h17 : (s.size + 1) % 17 = 0
    · obtain ⟨n, hn⟩ : ∃ n, s.size + 1 = 17 * (n + 1) := ⟨(s.size + 1) / 17 - 1, by omega⟩
      have PI := Lib.hid (parts_iff (l := s.data.toList) (n := n) (by rw [hlen]; exact hn))
      have RA := Lib.hid (fun h => rowAt_all (l := s.data.toList) (n := n) (by rw [hlen]; exact hn) h)
      obtain ⟨N, hN⟩ : ∃ N, N = n + 1 := ⟨_, rfl⟩
      rw [← hN] at RA
      have hq : ((s.size : Int) + 1) / 17 = (N : Int) := by omega
      have hr : (((s.size : Int) + 1) % 17 != 0) = false := by
        have : ((s.size : Int) + 1) % 17 = 0 := by omega
        rw [this]; rfl
      have hz : ((s.size : Int) == 0) = false := by rw [beq_eq_false_iff_ne]; omega
      have hs135 : s.size ≤ 135 := by omega
      have hN8 : N ≤ 8 := by omega
      have HLN := Lib.hid (show s.size + 1 = 17 * N by omega)
      have HL := Lib.hid hlen
      have MK := mk_any N (by omega)
      clear h17 hn hN hlen h135 hs
      go_enter Tryd.func10, Tryd.ntmps10
      go_wp2
      clear hq
      go_loopw [5, 6, 7] (fun i _ _ wr => ∃ k : Nat, k ≤ s.size ∧ i = .int .i64 k ∧ Hid (okI s.data.toList k) ∧ Own64 wr w.heap.size N (rowAt s.data.toList k N) ∧ Below w.heap.size w wr) (fun i _ _ _ => s.size - (intOf i).toNat)
      case atStart =>
        refine ⟨0, Nat.zero_le _, rfl, Lib.hid (fun j h => by omega), ?_, (Below.refl _ w).alloc (Nat.le_refl _) _⟩
        rw [rowAt_zero]
        exact made_own w N (by omega)
      case round =>
        obtain ⟨i, hi, rfl, hok, hown, hb2⟩ := hrel
        by_cases hlt : i < s.size
        · have hil : i < s.data.toList.length := by rw [HL.out]; exact hlt
          have hget : s.data.toList[i] = s[i] := rfl
          by_cases h16 : i % 17 = 16
          · have ht : ((i : Int) % 17 == 16) = true := by
              have : (i : Int) % 17 = 16 := by omega
              rw [this]; rfl
            by_cases hd : s[i] = 46
            · have hd2 : (((s[i].toNat : Nat) : Int) != 46) = false := by rw [hd]; rfl
              have HO := Lib.hid (rowAt_dot (n := N) hil h16)
              have HK := Lib.hid (okI_step hok.out hil (by rw [if_pos h16, hget]; exact hd))
              have HW := Lib.hid hown
              clear hd h16 hget hown
              go_wp2
              go_roundw
              case rel => exact ⟨i + 1, by omega, by go_num, HK, by rw [HO.out]; exact HW.out, hb2⟩
              case measure => simp [intOf]; omega
            · have hd2 : (((s[i].toNat : Nat) : Int) != 46) = true := by
                rw [bne_iff_ne]; intro e; exact hd (UInt8.toNat_inj.1 (by show s[i].toNat = 46; omega))
              have B := Lib.hid (EN.out (fun h => okI_not hil (by rw [if_pos h16, hget]; exact hd) (PI.out.1 h)))
              clear hd h16 hget hown
              go_wp2
              go_ret2
              exact ⟨.slice none 0 0, by rw [B.out.1]; rfl, by rw [B.out.2]; exact URow.none _, hb2⟩
          · have ht : ((i : Int) % 17 == 16) = false := by rw [beq_eq_false_iff_ne]; omega
            have DG := Lib.hid (fun w' => rdigit_any s[i] w')
            by_cases hg : 0 ≤ dig s[i]
            · obtain ⟨d, hdd⟩ : ∃ d : Nat, dig s[i] = d := ⟨(dig s[i]).toNat, by omega⟩
              have hd16 : d < 16 := by have := (dig_range s[i]).2; omega
              obtain ⟨k, hk⟩ : ∃ k, k + 1 + i / 17 = N := ⟨N - 1 - i / 17, by have := HLN.out; omega⟩
              have hki : (N : Int) - 1 - (i : Int) / 17 = (k : Int) := by omega
              have hkN : k < N := by omega
              have HS := Lib.hid (rowAt_step (n := N) (k := k) hil h16 hk)
              rw [hget, hdd, Int.toNat_natCast] at HS
              have HK := Lib.hid (okI_step hok.out hil (by rw [if_neg h16, hget]; exact hg))
              have hc1 := hown.cell (j := k) (by rw [rowAt_len]; exact hkN)
              rw [rowAt_get _ _ _ _ hkN, show N - 1 - k = i / 17 by omega] at hc1
              have ha := segTo_lt hil h16
              have hf1 := hown.frozen k
              have HO := Lib.hid hown
              rw [hdd] at DG
              generalize hv (segTo s.data.toList i (i / 17)) = a at *
              have hsum : ((16 * a + d : Nat) : Int) = 16 * (a : Int) + (d : Int) := by omega
              have HW := Lib.hid (show Own64 (wr.setCell ⟨w.heap.size, k, none⟩ (.int .u64 (16 * (a : Int) + (d : Int)))) w.heap.size N (rowAt s.data.toList (i + 1) N) by
                have := HO.out.set k (16 * a + d)
                rw [HS.out, hsum] at this
                exact this)
              have w1 : IntKind.u64.wrap (16 * (a : Int)) = 16 * (a : Int) := by rw [IntKind.wrap_u64]; omega
              have w2 : IntKind.u64.wrap (16 * (a : Int) + (d : Int)) = 16 * (a : Int) + (d : Int) := by rw [IntKind.wrap_u64]; omega
              clear hdd hg h16 hget hown hk hsum ha
              go_wp2_with (go_at_call 26; refine (DG.out _).mono ?_; rintro e w' ⟨rfl, rfl⟩)
              go_roundw
              case rel => exact ⟨i + 1, by omega, by go_num, HK, HW.out, hb2.setCell (p := ⟨w.heap.size, k, none⟩) (Nat.le_refl _) _⟩
              case measure => simp [intOf]; omega
            · have hg1 : dig s[i] = -1 := by have := (dig_range s[i]).1; omega
              have B := Lib.hid (EN.out (fun h => okI_not hil (by rw [if_neg h16, hget]; exact hg) (PI.out.1 h)))
              rw [hg1] at DG
              clear hg hg1 h16 hget hown
              go_wp2_with (go_at_call 26; refine (DG.out _).mono ?_; rintro e w' ⟨rfl, rfl⟩)
              go_ret2
              exact ⟨.slice none 0 0, by rw [B.out.1]; rfl, by rw [B.out.2]; exact URow.none _, hb2⟩
        · obtain rfl : i = s.size := by omega
          have hok' : okI s.data.toList s.data.toList.length := by rw [HL.out]; exact hok.out
          have G := Lib.hid (EK.out (PI.out.2 hok'))
          have HO := Lib.hid (show URow wr (rowV w.heap.size N N) (parseRow (parts s.data.toList)) from by
            have e := RA.out hok'
            rw [HL.out] at e
            rw [e] at hown
            have hle : (parseRow (parts s.data.toList)).length = N := by rw [← e, rowAt_len]
            have := hown.row
            rw [hle] at this
            exact this)
          clear hown hok'
          go_wp2
          go_ret2
          exact ⟨_, by rw [G.out.1]; rfl, by rw [G.out.2]; exact HO.out, hb2⟩
    · have hr : (((s.size : Int) + 1) % 17 != 0) = true := by rw [bne_iff_ne]; omega
      have B := Lib.hid (EN.out (fun h => by have := parts_len h; rw [hlen] at this; omega))
      clear h17 hlen h135 hs
      have hs2 : s.size ≤ 135 := by have := of_decide_eq_false hb; omega
      go_enter Tryd.func10, Tryd.ntmps10
      go_wp2
      go_ret2
      exact ⟨.slice none 0 0, by rw [B.out.1]; rfl, by rw [B.out.2]; exact URow.none _, Below.refl _ _⟩
end Go.Proofs.YtnegnmjjibhldaaDoor
