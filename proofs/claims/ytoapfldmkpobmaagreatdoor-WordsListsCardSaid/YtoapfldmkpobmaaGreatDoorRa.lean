/- Layer 1: the reference's less and next, walked. -/
import Derived.Test.YtoapfldmkpobmaaGreatDoorPd
import Derived.Test.YtoapfldmkpobmaaGreatDoorE
namespace Go.Proofs.YtoapfldmkpobmaaGreatDoor
open Go.RowKit
theorem rless_any (a b : ByteArray) (w : World) : Calls Tryz.prog 22 #[.string a, .string b] w fun e w' => e = .returned (.bool (lowB a b)) ∧ w = w' := by
  by_cases h : a.size = b.size
  · have HL := Lib.hid (show lowB a b = Op.bytesLess a.toList b.toList by unfold lowB; rw [if_pos h])
    have hn : ((a.size : Int) != (b.size : Int)) = false := by rw [h]; simp
    clear h
    go_enter Tryz.func22, Tryz.ntmps22
    go_wp2
    go_ret
    exact ⟨ret_bool HL.out.symm, rfl⟩
  · have HL := Lib.hid (show lowB a b = decide (a.size < b.size) by unfold lowB; rw [if_neg h])
    have hn : ((a.size : Int) != (b.size : Int)) = true := by rw [bne_iff_ne]; omega
    have hd : decide ((a.size : Int) < (b.size : Int)) = decide (a.size < b.size) := by
      by_cases h2 : a.size < b.size
      · rw [decide_eq_true h2]; exact decide_eq_true (by omega)
      · rw [decide_eq_false h2]; exact decide_eq_false (by omega)
    have HD := Lib.hid hd
    clear h hd
    go_enter Tryz.func22, Tryz.ntmps22
    go_wp2
    go_ret
    exact ⟨by rw [HL.out, ← HD.out]; rfl, rfl⟩
def zerS (j : Nat) : ByteArray := ⟨(List.replicate j 48).toArray⟩
theorem zerS_succ (j : Nat) : zerS j ++ ⟨#[48]⟩ = zerS (j + 1) := by
  apply ByteArray.ext
  apply Array.ext'
  simp [zerS, List.replicate_succ']
theorem zerS_size (j : Nat) : (zerS j).size = j := by unfold zerS; rw [size_mk]; simp
theorem suc_all {s : ByteArray} (h : sucL s.data.toList = (sucR (s.data.toList.take 0).reverse).reverse ++ List.replicate s.size 48) : (⟨#[49]⟩ : ByteArray) ++ zerS s.size = sucS s := by
  unfold sucS
  rw [h]
  apply ByteArray.ext
  simp [zerS, sucR]
theorem suc_here {s : ByteArray} {k : Nat} (hk : k < s.size) (h9 : s[k] ≠ 57) (h : sucL s.data.toList = (sucR (s.data.toList.take (k + 1)).reverse).reverse ++ List.replicate (s.size - (k + 1)) 48) : s.extract 0 k ++ ⟨#[s[k] + 1]⟩ ++ zerS (s.size - (k + 1)) = sucS s := by
  have hkl : k < s.data.toList.length := by rw [length_data]; exact hk
  have hg : s.data.toList.getD k 0 = s[k] := by rw [List.getD_eq_getElem?_getD, data_get s k hk]; rfl
  have e0 : sucR ((s.data.toList.take k ++ [s[k]]).reverse) = (s[k] + 1) :: (s.data.toList.take k).reverse := by
    rw [List.reverse_append]
    show sucR (s[k] :: (s.data.toList.take k).reverse) = _
    simp only [sucR, if_neg h9]
  unfold sucS
  rw [h, take_snoc hkl, hg, e0]
  apply ByteArray.ext
  simp [zerS]
set_option maxHeartbeats 800000 in
set_option maxRecDepth 100000 in
theorem rnext_any (s : ByteArray) (w : World) (hs : s.size ≤ 4000000000) : Calls Tryz.prog 23 #[.string s] w (SucPost w s) := by
  have H0 := Lib.hid (show sucL s.data.toList = (sucR (s.data.toList.take s.size).reverse).reverse ++ List.replicate (s.size - s.size) 48 by rw [← length_data, List.take_length]; simp [sucL])
  have hnw : IntKind.i64.wrap ((s.size : Int) - 1) = (s.size : Int) - 1 := IntWalk.i64_in _ (by omega)
  go_enter Tryz.func23, Tryz.ntmps23
  go_wp2
  clear hnw
  go_loop [3] (fun i => ∃ (k : Nat) (z : Int), k ≤ s.size ∧ i = .int .i64 z ∧ z = (k : Int) - 1 ∧ Hid (sucL s.data.toList = (sucR (s.data.toList.take k).reverse).reverse ++ List.replicate (s.size - k) 48)) (fun i => (intOf i + 1).toNat)
  case atStart => exact ⟨s.size, _, Nat.le_refl _, rfl, rfl, H0⟩
  case round =>
    clear H0
    obtain ⟨k, z, hk, rfl, hz, hS⟩ := hrel
    rcases k with _ | k
    · obtain rfl : z = -1 := by omega
      have t0 : decide ((0 : Int) ≤ -1) = false := by decide
      clear hz
      have HS := Lib.hid (suc_all (s := s) (by simpa using hS.out))
      clear hS
      go_wp2
      go_loop [4, 5] (fun o i => ∃ j : Nat, 0 + j ≤ s.size ∧ i = .int .i64 ((0 + j : Nat) : Int) ∧ o = .string (zerS j)) (fun _ i => s.size - (intOf i).toNat)
      case atStart => exact ⟨0, by omega, by go_num, rfl⟩
      case round =>
        obtain ⟨j, hj, rfl, rfl⟩ := hrel
        have hzs := zerS_size j
        have HZ := Lib.hid (zerS_succ j)
        by_cases hlt : 0 + j < s.size
        · have t2 : decide (((0 + j : Nat) : Int) < (s.size : Int)) = true := decide_eq_true (by omega)
          go_wp2
          go_round
          case rel => exact ⟨j + 1, by omega, by go_num, by rw [← HZ.out]⟩
          case measure => simp [intOf]; omega
        · have t2 : decide (((0 + j : Nat) : Int) < (s.size : Int)) = false := decide_eq_false (by omega)
          obtain rfl : j = s.size := by omega
          go_wp2
          go_ret
          exact ⟨by rw [← HS.out]; rfl, Below.refl _ _⟩
    · obtain rfl : z = (k : Int) := by omega
      clear hz
      have t0 : decide ((0 : Int) ≤ (k : Int)) = true := decide_eq_true (by omega)
      have hkn : k < s.size := hk
      have hkl : k < s.data.toList.length := by rw [length_data]; exact hkn
      have z2 : IntKind.i64.wrap ((k : Int) - 1) = (k : Int) - 1 := IntWalk.i64_in _ (by omega)
      have hg : s.data.toList.getD k 0 = s[k] := by rw [List.getD_eq_getElem?_getD, data_get s k hkn]; rfl
      by_cases h9 : s[k] = 57
      · have HST := Lib.hid (suc_step (m := s.size - (k + 1)) hkl (hg.trans h9))
        have t1 : ((s[k].toNat : Int) == 57) = true := by rw [h9]; decide
        clear h9 hg
        go_wp2
        go_round
        case rel => exact ⟨k, _, by omega, rfl, rfl, Lib.hid (by rw [hS.out, HST.out, show s.size - (k + 1) + 1 = s.size - k by omega])⟩
        case measure => simp [intOf]
      · have t1 : ((s[k].toNat : Int) == 57) = false := by
          rw [beq_eq_false_iff_ne]; intro e
          exact h9 (u8_eq_of_int _ 57 (by decide) e)
        have HH := Lib.hid (suc_here hkn h9 hS.out)
        have hwx : IntKind.u8.wrap ((s[k].toNat : Int) + 1) = ((s[k] + 1).toNat : Int) := by
          have h255 := s[k].toNat_lt
          have e : (s[k] + 1).toNat = (s[k].toNat + 1) % 256 := by rw [UInt8.toNat_add]; rfl
          rw [e, IntKind.wrap_u8]; omega
        have hx := (s[k] + 1).toNat_lt
        have he : UInt8.ofNat (IntKind.u8.wrap ((s[k].toNat : Int) + 1)).toNat = s[k] + 1 := by rw [hwx, Int.toNat_natCast]; exact UInt8.ofNat_toNat
        have hcv := one_byte_at (w.alloc (.cells #[.int .u8 (IntKind.u8.wrap ((s[k].toNat : Int) + 1))] 5)).drew w.heap.size (IntKind.u8.wrap ((s[k].toNat : Int) + 1)) (by rw [hwx]; omega) (by rw [hwx]; omega) (show World.cell? (w.alloc (.cells #[.int .u8 (IntKind.u8.wrap ((s[k].toNat : Int) + 1))] 5)) ⟨w.heap.size, 0, none⟩ = _ by simp [World.cell?_alloc_new])
        rw [he] at hcv
        clear he hwx hx
        have z3 : IntKind.i64.wrap ((k : Int) + 1) = ((k + 1 : Nat) : Int) := by rw [IntWalk.i64_in _ (by omega)]; omega
        clear h9 hg hS
        go_wp2
        go_loop [4, 5] (fun o i => ∃ j : Nat, (k + 1) + j ≤ s.size ∧ i = .int .i64 (((k + 1) + j : Nat) : Int) ∧ o = .string (zerS j)) (fun _ i => s.size - (intOf i).toNat)
        case atStart => exact ⟨0, by omega, by go_num, rfl⟩
        case round =>
          obtain ⟨j, hj, rfl, rfl⟩ := hrel
          have hzs := zerS_size j
          have HZ := Lib.hid (zerS_succ j)
          by_cases hlt : (k + 1) + j < s.size
          · have t2 : decide ((((k + 1) + j : Nat) : Int) < (s.size : Int)) = true := decide_eq_true (by omega)
            go_wp2
            go_round
            case rel => exact ⟨j + 1, by omega, by go_num, by rw [← HZ.out]⟩
            case measure => simp [intOf]; omega
          · have t2 : decide (((k + 1 + j : Nat) : Int) < (s.size : Int)) = false := decide_eq_false (by omega)
            obtain rfl : j = s.size - (k + 1) := by omega
            have t3 : decide ((k : Int) < 0) = false := decide_eq_false (by omega)
            have t4 : (k : Int) ≤ (s.size : Int) := by omega
            have t5 : (k : Int) < (s.size : Int) := by omega
            have t6 : (0 : Int) ≤ (k : Int) := by omega
            go_wp2
            go_region_with (fail)
            all_goals go_wp2
            all_goals go_ret
            all_goals exact ⟨by rw [← HH.out]; rfl, (Below.refl _ _).drew.alloc (Nat.le_refl _) _⟩
end Go.Proofs.YtoapfldmkpobmaaGreatDoor
