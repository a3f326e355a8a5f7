/- TraceKnown. -/
import Derived.Test.YtihhgnjkmhdpmaaGreatDoorZg
import Derived.Test.YtihhgnjkmhdpmaaGreatDoorD
import Derived.Test.YtihhgnjkmhdpmaaGreatDoorC
namespace Go.Proofs.YtihhgnjkmhdpmaaGreatDoor
open Go.RowKit W
abbrev sK1 : ByteArray := ⟨#[108, 111, 97, 100, 32, 53, 32, 49, 10, 108, 111, 97, 100, 32, 54, 32, 49, 10]⟩
abbrev sK2 : ByteArray := ⟨#[108, 111, 97, 100, 32, 54, 53, 53, 51, 53, 32, 50, 10]⟩
abbrev sK3 : ByteArray := ⟨#[108, 111, 97, 100, 32, 49, 32, 48, 10]⟩
abbrev sK4 : ByteArray := ⟨#[115, 116, 111, 114, 101, 32, 48, 49, 32, 49, 10]⟩
theorem pK1 : (parseP sK1).2 = (2, 6) := by decide +kernel
theorem pK2 : (parseP sK2).2 = (1, 7) := by decide +kernel
theorem pK3 : (parseP sK3).2 = (1, 7) := by decide +kernel
theorem pK4 : (parseP sK4).2 = (1, 6) := by decide +kernel
theorem cK8 : checkP exL 8 = (0, 0) := by decide +kernel
theorem cK7 : checkP exL 7 = (4, 7) := by decide +kernel
theorem dK : diffP exL exL = -1 := by decide +kernel
theorem gK : digP [(1, 0)] = 15568218984286027500 := by
  unfold digP digL digL digE rndI
  decide +kernel
theorem ex_v (W : World) : Calls Tryz.prog 14 #[] W fun e w' => ∃ v, e = .returned v ∧ TR w' v exL ∧ Below W.heap.size W w' := by
  refine (example_any W).mono ?_
  rintro e w' ⟨rfl, rfl⟩
  exact ⟨_, rfl, ex_tr W, (Below.refl _ W).alloc (Nat.le_refl _) _⟩
theorem one_tr (W : World) : TR (W.alloc (.cells #[.int .i32 1, .int .i32 0] 39)) (.slice (some ⟨W.heap.size, 0, none⟩) 1 1) [(1, 0)] := by
  refine ⟨fun x hx => by cases List.mem_singleton.1 hx; unfold okE; omega, _, 1, rfl, Nat.le_refl _, fun i x hi => ?_⟩
  match i, hi with
  | 0, hi =>
    cases hi
    exact ⟨_, 0, rfl, by simp, by simp [World.cell?_alloc_new], by simp [World.cell?_alloc_new]⟩
def wantK : Nat → Int
  | 0 => 14695981039346656037
  | 1 => 12638152016183539244
  | 2 => 589727492704079044
  | 3 => 15034026112158478604
  | 4 => 12478008331234465636
  | _ => 15568218984286027500
set_option maxHeartbeats 4000000 in
set_option maxRecDepth 100000 in
theorem tknown_any (w : World) (hw : LW w) : Calls Tryz.prog 5 #[] w (AwPost w) := by
  have hb := Below.refl w.heap.size w
  have HP := Lib.hid (fun W (h : Below w.heap.size w W) => lw_p (hw.below h))
  have AW := Lib.hid awake_any
  have EX := Lib.hid ex_v
  have C8 := Lib.hid (fun W v (h : TR W v exL) => check_any v exL 8 W h (by decide))
  have C7 := Lib.hid (fun W v (h : TR W v exL) => check_any v exL 7 W h (by decide))
  unfold ChPost at C8 C7
  rw [cK8] at C8
  rw [cK7] at C7
  have P1 := Lib.hid (fun W (h : Below w.heap.size w W) => parse_any sK1 W (hw.below h) (by decide))
  have P2 := Lib.hid (fun W (h : Below w.heap.size w W) => parse_any sK2 W (hw.below h) (by decide))
  have P3 := Lib.hid (fun W (h : Below w.heap.size w W) => parse_any sK3 W (hw.below h) (by decide))
  have P4 := Lib.hid (fun W (h : Below w.heap.size w W) => parse_any sK4 W (hw.below h) (by decide))
  unfold PsPost at P1 P2 P3 P4
  rw [pK1] at P1
  rw [pK2] at P2
  rw [pK3] at P3
  rw [pK4] at P4
  have DG := Lib.hid (fun W => digest_any _ [(1, 0)] _ (one_tr W) (by decide))
  unfold DgPost at DG
  rw [gK] at DG
  have DF := Lib.hid (fun W v v' (h : TR W v exL) (h' : TR W v' exL) => differ_any v v' exL exL W h h' (by decide) (by decide))
  unfold DfPost at DF
  rw [dK] at DF
  clear hw
  go_enter Tryz.func5, Tryz.ntmps5
  go_wp2_with (first
    | (go_at_call 14; (with_reducible refine (EX.out _).mono ?_); rintro e w1 ⟨v1, rfl, hv, hb2⟩; (try have VP := Lib.hid (V.out.below hb2)); have V := Lib.hid hv; replace hb := hb.trans (hb2.mono hb.size); clear hb2 hv)
    | (go_at_call 13; (with_reducible refine (C8.out _ _ V.out).mono ?_); rintro e w1 ⟨rfl, hb2⟩; replace hb := hb.trans (hb2.mono hb.size); clear hb2)
    | (go_at_call 13; (with_reducible refine (C7.out _ _ V.out).mono ?_); rintro e w1 ⟨rfl, hb2⟩; replace hb := hb.trans (hb2.mono hb.size); clear hb2)
    | (go_at_call 10; (first | (with_reducible refine (P1.out _ hb).mono ?_) | (with_reducible refine (P2.out _ hb).mono ?_) | (with_reducible refine (P3.out _ hb).mono ?_) | (with_reducible refine (P4.out _ hb).mono ?_)); rintro e w1 ⟨v1, rfl, _, hb2⟩; replace hb := hb.trans (hb2.mono hb.size); clear hb2))
  clear C8 C7 P1 P2 P3 P4 V
  (try clear VP)
  obtain ⟨wA, hwA⟩ : ∃ W, W = w1.alloc (.cells #[.int .u64 1, .int .u64 0, .int .u64 0, .int .u64 0, .int .u64 0] 36) := ⟨_, rfl⟩
  rw [← hwA]
  have hbA : Below w.heap.size w wA := by rw [hwA]; exact hb.alloc hb.size _
  have hBlk : wA.heap[w1.heap.size]? = some (.cells #[.int .u64 1, .int .u64 0, .int .u64 0, .int .u64 0, .int .u64 0] 36) := by rw [hwA]; exact heap_new _ _
  have HBA := Lib.hid hbA
  have HBK := Lib.hid hBlk
  clear hwA hbA hBlk hb
  go_loopw [17, 19] (fun s17 s19 wr => ∃ k : Nat, k ≤ 5 ∧ s19 = .int .i64 (k : Int) ∧ s17 = .int .u64 (wantK k) ∧ wr = wA) (fun _ s19 _ => 5 - (intOf s19).toNat)
  case atStart => exact ⟨0, by omega, rfl, rfl, rfl⟩
  case round =>
    obtain ⟨k, hk, rfl, rfl, rfl⟩ := hrel
    have hk6 : k = 0 ∨ k = 1 ∨ k = 2 ∨ k = 3 ∨ k = 4 ∨ k = 5 := by omega
    clear hk
    have c0 := (cell_blk HBK.out 0).trans rfl
    have c1 := (cell_blk HBK.out 1).trans rfl
    have c2 := (cell_blk HBK.out 2).trans rfl
    have c3 := (cell_blk HBK.out 3).trans rfl
    have c4 := (cell_blk HBK.out 4).trans rfl
    rcases hk6 with rfl | rfl | rfl | rfl | rfl | rfl
    · have x1 : bits .xor .u64 (wantK 0) 1 = bits .xor .u64 (wantK 0) 1 := rfl
      have x2 : IntKind.u64.wrap (bits .xor .u64 (wantK 0) 1 * 1099511628211) = wantK (0 + 1) := by decide +kernel
      obtain ⟨a, ha⟩ : ∃ a, a = wantK 0 := ⟨_, rfl⟩
      obtain ⟨z, hz⟩ : ∃ z, z = wantK (0 + 1) := ⟨_, rfl⟩
      rw [← ha, ← hz] at x2
      rw [← ha]
      clear x1
      have HZ := Lib.hid hz
      clear ha hz
      go_wp2
      go_roundw
      case rel => exact ⟨0 + 1, by omega, by go_num, by rw [HZ.out], by trivial⟩
      case measure => simp [intOf]
    · have x1 : bits .xor .u64 (wantK 1) 0 = bits .xor .u64 (wantK 1) 0 := rfl
      have x2 : IntKind.u64.wrap (bits .xor .u64 (wantK 1) 0 * 1099511628211) = wantK (1 + 1) := by decide +kernel
      obtain ⟨a, ha⟩ : ∃ a, a = wantK 1 := ⟨_, rfl⟩
      obtain ⟨z, hz⟩ : ∃ z, z = wantK (1 + 1) := ⟨_, rfl⟩
      rw [← ha, ← hz] at x2
      rw [← ha]
      clear x1
      have HZ := Lib.hid hz
      clear ha hz
      go_wp2
      go_roundw
      case rel => exact ⟨1 + 1, by omega, by go_num, by rw [HZ.out], by trivial⟩
      case measure => simp [intOf]
    · have x1 : bits .xor .u64 (wantK 2) 0 = bits .xor .u64 (wantK 2) 0 := rfl
      have x2 : IntKind.u64.wrap (bits .xor .u64 (wantK 2) 0 * 1099511628211) = wantK (2 + 1) := by decide +kernel
      obtain ⟨a, ha⟩ : ∃ a, a = wantK 2 := ⟨_, rfl⟩
      obtain ⟨z, hz⟩ : ∃ z, z = wantK (2 + 1) := ⟨_, rfl⟩
      rw [← ha, ← hz] at x2
      rw [← ha]
      clear x1
      have HZ := Lib.hid hz
      clear ha hz
      go_wp2
      go_roundw
      case rel => exact ⟨2 + 1, by omega, by go_num, by rw [HZ.out], by trivial⟩
      case measure => simp [intOf]
    · have x1 : bits .xor .u64 (wantK 3) 0 = bits .xor .u64 (wantK 3) 0 := rfl
      have x2 : IntKind.u64.wrap (bits .xor .u64 (wantK 3) 0 * 1099511628211) = wantK (3 + 1) := by decide +kernel
      obtain ⟨a, ha⟩ : ∃ a, a = wantK 3 := ⟨_, rfl⟩
      obtain ⟨z, hz⟩ : ∃ z, z = wantK (3 + 1) := ⟨_, rfl⟩
      rw [← ha, ← hz] at x2
      rw [← ha]
      clear x1
      have HZ := Lib.hid hz
      clear ha hz
      go_wp2
      go_roundw
      case rel => exact ⟨3 + 1, by omega, by go_num, by rw [HZ.out], by trivial⟩
      case measure => simp [intOf]
    · have x1 : bits .xor .u64 (wantK 4) 0 = bits .xor .u64 (wantK 4) 0 := rfl
      have x2 : IntKind.u64.wrap (bits .xor .u64 (wantK 4) 0 * 1099511628211) = wantK (4 + 1) := by decide +kernel
      obtain ⟨a, ha⟩ : ∃ a, a = wantK 4 := ⟨_, rfl⟩
      obtain ⟨z, hz⟩ : ∃ z, z = wantK (4 + 1) := ⟨_, rfl⟩
      rw [← ha, ← hz] at x2
      rw [← ha]
      clear x1
      have HZ := Lib.hid hz
      clear ha hz
      go_wp2
      go_roundw
      case rel => exact ⟨4 + 1, by omega, by go_num, by rw [HZ.out], by trivial⟩
      case measure => simp [intOf]
    · clear c0 c1 c2 c3 c4
      have hb := HBA.out
      simp only [wantK]
      go_wp2_with (first
        | (go_at_call 15; (with_reducible refine (DG.out _).mono ?_); rintro e w2 ⟨rfl, hb2⟩; replace hb := hb.trans (((psAlloc _ _).trans (hb2.mono (psAlloc _ _).size)).mono hb.size); clear hb2)
        | (go_at_call 14; (with_reducible refine (EX.out _).mono ?_); rintro e w1 ⟨v1, rfl, hv, hb2⟩; (try have VP := Lib.hid (V.out.below hb2)); have V := Lib.hid hv; replace hb := hb.trans (hb2.mono hb.size); clear hb2 hv)
        | (go_at_call 16; (with_reducible refine (DF.out _ _ _ VP.out V.out).mono ?_); rintro e w1 ⟨rfl, hb2⟩; replace hb := hb.trans (hb2.mono hb.size); clear hb2)
        | (go_at_call 7; (with_reducible refine (AW.out _ (HP.out _ hb)).mono ?_); rintro e w8 ⟨rfl, hb2⟩; replace hb := hb.trans (hb2.mono hb.size); clear hb2))
      go_ret
      exact ⟨rfl, hb⟩
end Go.Proofs.YtihhgnjkmhdpmaaGreatDoor
