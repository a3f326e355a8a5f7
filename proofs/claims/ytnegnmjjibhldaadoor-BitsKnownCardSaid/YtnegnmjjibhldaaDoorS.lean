/- Layer 2: digit, Print of the reference. -/
import Derived.Test.YtnegnmjjibhldaaDoorR
namespace Go.Proofs.YtnegnmjjibhldaaDoor
open Go.RowKit
theorem hex_indexI (d : Nat) (hd : d < 16) (w : World) : (Instr.index 9 (.string ⟨#[48, 49, 50, 51, 52, 53, 54, 55, 56, 57, 97, 98, 99, 100, 101, 102]⟩) (.int .i64 (d : Int))).run Tryd.prog w = .ok (.int .u8 ((hexc d).toNat : Int)) w := by
  rcases d with _ | _ | _ | _ | _ | _ | _ | _ | _ | _ | _ | _ | _ | _ | _ | _ | d
  all_goals first | omega | kernel_rfl
theorem dig_at {c : UInt8} {k : Nat} (hk : k < 16) (hn : c ∉ hexL.take k) (he : hexc k = c) : dig c = k := by
  have e := dig_hexc k hk
  rw [he] at e; have := hn; exact e
theorem dig_none {c : UInt8} (hn : c ∉ hexL) : dig c = -1 := by
  have h := dig_range c
  by_cases h0 : 0 ≤ dig c
  · have e := hexc_dig c h0
    refine absurd ?_ hn
    rw [← e]; unfold hexc
    rw [List.getD_eq_getElem?_getD, List.getElem?_eq_getElem (show (dig c).toNat < hexL.length by show _ < 16; omega)]
    exact List.getElem_mem _
  · omega
theorem hexL_take (k : Nat) (hk : k < 16) : hexL.take (k + 1) = hexL.take k ++ [hexc k] := by
  rw [List.take_succ_eq_append_getElem (show k < hexL.length from hk)]
  unfold hexc
  rw [List.getD_eq_getElem?_getD, List.getElem?_eq_getElem (show k < hexL.length from hk)]; rfl
theorem rdigit_any (c : UInt8) (w : World) : Calls Tryd.prog 26 #[.int .u8 (c.toNat : Int)] w fun e w' => e = .returned (.int .i64 (dig c)) ∧ w = w' := by
  go_enter Tryd.func26, Tryd.ntmps26
  go_wp2
  go_loop [3] (fun i => ∃ k : Nat, k ≤ 16 ∧ i = .int .i64 k ∧ Hid (c ∉ hexL.take k)) (fun i => 16 - (intOf i).toNat)
  case atStart => exact ⟨0, by omega, rfl, Lib.hid (by simp)⟩
  case round =>
    obtain ⟨k, hk, rfl, hn⟩ := hrel
    by_cases hlt : k < 16
    · have hltb : decide ((k : Int) < 16) = true := decide_eq_true (by omega)
      have e2 := hex_indexI k hlt
      by_cases he : hexc k = c
      · have ht : ((((hexc k).toNat : Nat) : Int) == ((c.toNat : Nat) : Int)) = true := by rw [he]; simp
        have D := Lib.hid (dig_at hlt hn.out he)
        generalize hexc k = h at *
        clear he
        go_wp2
        go_ret
        exact ⟨by rw [D.out]; rfl, rfl⟩
      · have ht : ((((hexc k).toNat : Nat) : Int) == ((c.toNat : Nat) : Int)) = false := by
          rw [beq_eq_false_iff_ne]; intro e; exact he (UInt8.toNat_inj.1 (by omega))
        have D := Lib.hid (show c ∉ hexL.take (k + 1) by
          rw [hexL_take k hlt]; intro hm
          rcases List.mem_append.1 hm with h | h
          · exact hn.out h
          · simp at h; exact he h.symm)
        generalize hexc k = h at *
        clear he
        go_wp2
        go_round
        case rel => exact ⟨k + 1, by omega, by go_num, D⟩
        case measure => simp [intOf]; omega
    · obtain rfl : k = 16 := by omega
      have D := Lib.hid (dig_none (c := c) hn.out)
      go_wp2
      go_ret
      exact ⟨by rw [D.out]; rfl, rfl⟩
theorem str_app (a b : List UInt8) : (⟨a.toArray⟩ ++ ⟨b.toArray⟩ : ByteArray) = ⟨(a ++ b).toArray⟩ := by
  apply ByteArray.ext; simp
theorem one_str (h : UInt8) (W : World) : (convert 47 9 (.slice (some ⟨W.heap.size, 0, none⟩) 1 1)).run Tryd.prog (W.alloc (.cells #[.int .u8 (h.toNat : Int)] 5)) = .ok (.string ⟨#[h]⟩) (W.alloc (.cells #[.int .u8 (h.toNat : Int)] 5)) :=
  run_convert_bytes_back (P := Tryd.prog) _ 47 9 5 ⟨W.heap.size, 0, none⟩ 1 [h] Tryd.underlying47 Tryd.underlying5 Tryd.underlying9 (fun j hj => by
    obtain rfl : j = 0 := by simp at hj; omega
    exact cell_one_new W _ _ 0 _ rfl)
theorem printTo_pos (xs : List Nat) (k : Nat) (hk : 0 < k) : printTo xs k ≠ [] := by
  obtain ⟨j, rfl⟩ : ∃ j, k = j + 1 := ⟨k - 1, by omega⟩
  rw [printTo_succ]
  intro e
  have := congrArg List.length e
  rw [List.length_append, List.length_append, wordUpto_len] at this
  simp at this
set_option maxHeartbeats 400000 in
set_option maxRecDepth 100000 in
theorem rprint_any (v : Value) (xs : List Nat) (w : World) (hv : URow w v xs) (hw : Wf xs) : Calls Tryd.prog 8 #[v] w (TextPost w (printL xs) (chk xs.length)) := by
  have C := Lib.hid (rcheck_any v xs w hv)
  by_cases h0 : chk xs.length = 0
  · have h01 := chk_zero h0
    have hne : (chk xs.length != 0) = false := by simp [h0]
    have R := Lib.hid (show printL xs = printTo xs xs.length by unfold printL; rw [if_pos h0])
    have E := Lib.hid h0
    obtain ⟨b, o, c, rfl, hc, hx⟩ := hv.later h01.1
    generalize hxn : xs.length = n at *
    have HN := Lib.hid hxn
    have HC := Lib.hid hx
    clear hx hxn h0
    go_enter Tryd.func8, Tryd.ntmps8
    go_wp2_with (go_at_call 23; refine C.out.mono ?_; rintro e w' ⟨rfl, rfl⟩)
    go_loopw [5, 6, 7] (fun t i _ wr => ∃ (k : Nat) (S : ByteArray), k ≤ n ∧ i = .int .i64 ((n : Int) - 1 - (k : Int)) ∧ t = .string S ∧ Hid (S = ⟨(printTo xs k).toArray⟩) ∧ Below w.heap.size w wr) (fun _ i _ _ => (intOf i + 1).toNat)
    case atStart => exact ⟨0, ⟨#[]⟩, by omega, by simp, rfl, Lib.hid rfl, Below.refl _ _⟩
    case round =>
      obtain ⟨k, S, hk, rfl, rfl, hS, hb⟩ := hrel
      by_cases hlt : k < n
      · obtain ⟨j, hj⟩ : ∃ j, j + 1 + k = n := ⟨n - 1 - k, by omega⟩
        obtain ⟨x, hx⟩ : ∃ x, xs[j]? = some x := ⟨_, List.getElem?_eq_getElem (by rw [HN.out]; omega)⟩
        have hxd : xs.getD (xs.length - 1 - k) 0 = x := by rw [HN.out, show n - 1 - k = j by omega, List.getD_eq_getElem?_getD, hx]; rfl
        have SC := Lib.hid (printTo_succ xs k)
        rw [hxd] at SC
        have hx64 := Lib.hid (hw x (List.mem_of_getElem? hx))
        have hji : (n : Int) - 1 - (k : Int) = (j : Int) := by omega
        have CELL := Lib.hid (fun w' (h : Below w.heap.size w w') => HC.out w' j x h hx)
        have hjn : j < n := by omega
        have HJ := Lib.hid hj
        have HJI := Lib.hid hji
        rcases Nat.eq_zero_or_pos k with rfl | hkp
        · have hji0 : (n : Int) - 1 = (j : Int) := by omega
          rw [if_pos rfl, List.nil_append] at SC
          have hN : S.toList = [] := by rw [hS.out, Lib.toList_data]; rfl
          have hSE : S = ⟨#[]⟩ := hS.out
          subst hSE
          clear hj hx hxd hji hS hN
          go_wp2
          go_loopw [5, 7] (fun t i wr => ∃ (m : Nat) (T : ByteArray), m ≤ 16 ∧ i = .int .i64 (15 - (m : Int)) ∧ t = .string T ∧ Hid (T = ⟨(printTo xs 0 ++ wordUpto x m).toArray⟩) ∧ Below w.heap.size w wr) (fun _ i _ => (intOf i + 1).toNat)
          case atStart => exact ⟨0, _, by omega, by simp, rfl, Lib.hid (by rfl), hb⟩
          case round =>
            clear hb
            obtain ⟨m, T, hm, rfl, rfl, hT, hb⟩ := hrel
            by_cases hmlt : m < 16
            · obtain ⟨q, hq⟩ : ∃ q, q + m = 15 := ⟨15 - m, by omega⟩
              have hqi : 15 - (m : Int) = (q : Int) := by omega
              have hcell := CELL.out _ hb
              have e1 := nib (x := x) (m := 4 * q) hx64.out
              have e2 := hex_index (x / 2 ^ (4 * q) % 16) (Nat.mod_lt _ (by omega))
              have SM := Lib.hid (wordUpto_succ x m)
              rw [show 60 - 4 * m = 4 * q by omega] at SM
              generalize x / 2 ^ (4 * q) % 16 = d at *
              generalize hexd d = h at *
              have ec := one_str h
              have HT2 := Lib.hid (show T ++ ⟨#[h]⟩ = ⟨(printTo xs 0 ++ wordUpto x (m + 1)).toArray⟩ by
                rw [hT.out, SM.out, ← List.append_assoc, show (#[h] : Array UInt8) = [h].toArray from rfl, str_app])
              have hTl : T.size ≤ 1000 := by
                have hpl : (printTo xs 0).length ≤ 900 := (by simp [printTo])
                rw [hT.out]; show (_ : List UInt8).toArray.size ≤ _; rw [List.size_toArray, List.length_append, wordUpto_len]; omega
              have HBS := Lib.hid hb.size
              have HQ := Lib.hid hqi
              have hq15 : q ≤ 15 := by omega
              have HQ2 := Lib.hid hq
              clear hq
              go_wp2
              go_roundw
              case rel => exact ⟨m + 1, T ++ ⟨#[h]⟩, by omega, by have := HQ2.out; congr 1; omega, rfl, HT2, hb.alloc HBS.out _⟩
              case measure => simp [intOf]; omega
            · obtain rfl : m = 16 := by omega
              have hqi : (15 : Int) - ((16 : Nat) : Int) = -1 := by omega
              go_wp2
              go_roundw
              case rel => exact ⟨1, T, by omega, by have := HJI.out; congr 1; omega, rfl, Lib.hid (by rw [hT.out, SC.out]), hb⟩
              case measure => simp [intOf]; omega
        · rw [if_neg (by omega), ← List.append_assoc] at SC
          have hN : ¬ S.toList = [] := by rw [hS.out, Lib.toList_data]; exact printTo_pos xs k hkp
          have hE : S.toList.isEmpty = false := by
            cases e : S.toList with
            | nil => exact absurd e hN
            | cons a l => rfl
          have HS2 := Lib.hid (show S ++ ⟨#[46]⟩ = ⟨((printTo xs k ++ [46]) ++ wordUpto x 0).toArray⟩ by
            rw [hS.out, show wordUpto x 0 = [] from rfl, List.append_nil, ← str_app])
          have hSl : S.size ≤ 1000 := by
            have := printTo_len xs k
            rw [hS.out]; show (_ : List UInt8).toArray.size ≤ _; rw [List.size_toArray]; omega
          clear hj hx hxd hS
          go_wp2
          go_loopw [5, 7] (fun t i wr => ∃ (m : Nat) (T : ByteArray), m ≤ 16 ∧ i = .int .i64 (15 - (m : Int)) ∧ t = .string T ∧ Hid (T = ⟨((printTo xs k ++ [46]) ++ wordUpto x m).toArray⟩) ∧ Below w.heap.size w wr) (fun _ i _ => (intOf i + 1).toNat)
          case atStart => exact ⟨0, _, by omega, by simp, rfl, Lib.hid (by exact HS2.out), hb⟩
          case round =>
            clear hb
            obtain ⟨m, T, hm, rfl, rfl, hT, hb⟩ := hrel
            by_cases hmlt : m < 16
            · obtain ⟨q, hq⟩ : ∃ q, q + m = 15 := ⟨15 - m, by omega⟩
              have hqi : 15 - (m : Int) = (q : Int) := by omega
              have hcell := CELL.out _ hb
              have e1 := nib (x := x) (m := 4 * q) hx64.out
              have e2 := hex_index (x / 2 ^ (4 * q) % 16) (Nat.mod_lt _ (by omega))
              have SM := Lib.hid (wordUpto_succ x m)
              rw [show 60 - 4 * m = 4 * q by omega] at SM
              generalize x / 2 ^ (4 * q) % 16 = d at *
              generalize hexd d = h at *
              have ec := one_str h
              have HT2 := Lib.hid (show T ++ ⟨#[h]⟩ = ⟨((printTo xs k ++ [46]) ++ wordUpto x (m + 1)).toArray⟩ by
                rw [hT.out, SM.out, ← List.append_assoc, show (#[h] : Array UInt8) = [h].toArray from rfl, str_app])
              have hTl : T.size ≤ 1000 := by
                have hpl : ((printTo xs k ++ [46])).length ≤ 900 := (by have := printTo_len xs k; rw [List.length_append, List.length_singleton]; omega)
                rw [hT.out]; show (_ : List UInt8).toArray.size ≤ _; rw [List.size_toArray, List.length_append, wordUpto_len]; omega
              have HBS := Lib.hid hb.size
              have HQ := Lib.hid hqi
              have hq15 : q ≤ 15 := by omega
              have HQ2 := Lib.hid hq
              clear hq
              go_wp2
              go_roundw
              case rel => exact ⟨m + 1, T ++ ⟨#[h]⟩, by omega, by have := HQ2.out; congr 1; omega, rfl, HT2, hb.alloc HBS.out _⟩
              case measure => simp [intOf]; omega
            · obtain rfl : m = 16 := by omega
              have hqi : (15 : Int) - ((16 : Nat) : Int) = -1 := by omega
              go_wp2
              go_roundw
              case rel => exact ⟨k + 1, T, by omega, by have := HJI.out; congr 1; omega, rfl, Lib.hid (by rw [hT.out, SC.out]), hb⟩
              case measure => simp [intOf]; omega
      · obtain rfl : k = n := by omega
        have hji : (k : Int) - 1 - (k : Int) = -1 := by omega
        go_wp2
        go_ret2
        exact ⟨by rw [E.out, R.out, ← hS.out]; rfl, hb⟩
  · have hne : (chk xs.length != 0) = true := by simp [h0]
    have R := Lib.hid (show printL xs = [] by unfold printL; rw [if_neg h0])
    clear h0
    go_enter Tryd.func8, Tryd.ntmps8
    go_wp2_with (go_at_call 23; refine C.out.mono ?_; rintro e w' ⟨rfl, rfl⟩)
    go_ret2
    exact ⟨by rw [R.out]; rfl, Below.refl _ _⟩
end Go.Proofs.YtnegnmjjibhldaaDoor
