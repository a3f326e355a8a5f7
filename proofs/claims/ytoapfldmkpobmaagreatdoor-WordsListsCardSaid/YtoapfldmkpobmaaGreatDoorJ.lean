/- Layer 1: unescape. -/
import Derived.Test.YtoapfldmkpobmaaGreatDoorI
namespace Go.Proofs.YtoapfldmkpobmaaGreatDoor
open Go.RowKit
theorem unesc_plain (s : ByteArray) (w : World) (_hs : s.size ≤ 100000000000) (h : 0 < s.size) (hp : plainB s[0] = true) : Calls Tryz.prog 47 #[.string s] w (UnPost w s.data.toList) := by
  have hx := un_plain s[0] (s.data.toList.drop 1) hp
  rw [← data_cons s h] at hx
  have HX := Lib.hid hx
  have HP := Lib.hid hp
  clear hx
  go_enter Tryz.func47, Tryz.ntmps47
  go_wp2_with (go_at_call 61; refine (plain_any _ _).mono ?_; rintro e w' ⟨rfl, rfl⟩)
  go_ret2
  exact unPost_some HX.out (by unfold escL; rw [if_pos HP.out]; rfl) (Below.refl _ _)
theorem unesc_first (s : ByteArray) (w : World) (_hs : s.size ≤ 100000000000) (h : 0 < s.size) (hp : plainB s[0] = false) (h0 : s[0] ≠ 92) : Calls Tryz.prog 47 #[.string s] w (UnPost w s.data.toList) := by
  have hx := un_first s[0] (s.data.toList.drop 1) hp h0
  rw [← data_cons s h] at hx
  have HX := Lib.hid hx
  have f1 : ((s[0].toNat : Int) != 92) = true := by
    rw [bne_iff_ne]; intro e; exact h0 (u8_eq_of_int _ 92 (by decide) e)
  clear hx h0
  go_enter Tryz.func47, Tryz.ntmps47
  go_wp2_with (go_at_call 61; refine (plain_any _ _).mono ?_; rintro e w' ⟨rfl, rfl⟩)
  go_ret2
  exact unPost_none HX.out (Below.refl _ _)
theorem unesc_one (s : ByteArray) (w : World) (h : s.size = 1) (hp : plainB s[0] = false) (h0 : s[0] = 92) : Calls Tryz.prog 47 #[.string s] w (UnPost w s.data.toList) := by
  have hx := un_one s[0] hp
  rw [← data_one s h] at hx
  have HX := Lib.hid hx
  have f1 : ((s[0].toNat : Int) != 92) = false := by rw [h0]; rfl
  have f2 : s.size < 2 := by omega
  have f3 : 0 < s.size := by omega
  clear hx h0
  go_enter Tryz.func47, Tryz.ntmps47
  go_wp2_with (go_at_call 61; refine (plain_any _ _).mono ?_; rintro e w' ⟨rfl, rfl⟩)
  go_ret2
  exact unPost_none HX.out (Below.refl _ _)

set_option maxHeartbeats 800000 in
set_option maxRecDepth 100000 in
/-- Behind a backslash: the letter number m of the table, or (m = 5) none of them. -/
theorem unesc_loop (s : ByteArray) (w : World) (hw : LW w) (hs : s.size ≤ 100000000000) (h : 2 ≤ s.size) (h0 : s[0] = 92) (m : Nat) (hm : m ≤ 5) (hne : ∀ j, j < m → ec j ≠ s[1]) (hit : m < 5 → ec m = s[1]) :
    Calls Tryz.prog 47 #[.string s] w (UnPost w s.data.toList) := by
  obtain ⟨fr, hesc⟩ := hw.esc
  have hp : plainB s[0] = false := by rw [h0]; exact plain92
  have f1 : ((s[0].toNat : Int) != 92) = false := by rw [h0]; rfl
  have HE := Lib.hid hne
  have HT := Lib.hid hit
  have H0 := Lib.hid h0
  have hb1 : (1 : Int) < (s.size : Int) := by omega
  clear hne hit h0
  go_enter Tryz.func47, Tryz.ntmps47
  go_wp2_with (first | (go_at_call 61; refine (plain_any _ _).mono ?_; rintro e w' ⟨rfl, rfl⟩) | refine wpList_load_row rfl 98 _ rfl 0 rfl 98 escCells fr _ hesc Tryz.underlying98 rfl (by kernel_rfl) ?_)
  clear hesc f1 hp
  go_loopw [5, 20] (fun _ i wr => ∃ k : Nat, k ≤ m ∧ i = .int .i64 k ∧ Below w.heap.size w wr) (fun _ i _ => 5 - (intOf i).toNat)
  case atStart => exact ⟨0, by omega, rfl, Below.refl _ _⟩
  case round =>
    obtain ⟨k, hk, rfl, hbel⟩ := hrel
    by_cases h5 : k = 5
    · subst h5
      have hc := Lib.hid (unhex_any s wr (hw.below hbel) hs h H0.out (fun j hj => HE.out j (by omega)))
      clear hw
      go_wp2_with (go_at_call 62; refine hc.out.mono ?_; rintro e w2 ⟨rfl, hb2⟩)
      go_ret2
      exact ⟨rfl, hbel.trans (hb2.mono hbel.size)⟩
    · have hix := run_escIx k (by omega)
      by_cases hkm : k = m
      · subst hkm
        have hx := un_two k (by omega) (s.data.toList.drop 2)
        rw [HT.out (by omega), ← H0.out, ← data_drop s 1 (by omega), ← data_cons s (by omega)] at hx
        have HX := Lib.hid hx
        have ht : ((((ec k).toNat : Int)) == (s[1].toNat : Int)) = true := by rw [HT.out (by omega)]; simp
        have hel := Lib.hid (escL_ev k (by omega))
        clear hx hw
        go_wp2_with fail
        go_quiet (fail)
        go_wp2_with fail
        go_ret2
        exact unPost_some HX.out (by rw [hel.out]; rfl) ((hbel.alloc hbel.size _).trans (below_drewN (Below.refl _ _) _))
      · have ht : ((((ec k).toNat : Int)) == (s[1].toNat : Int)) = false := by
          have := HE.out k (by omega)
          rw [beq_eq_false_iff_ne]; intro e; exact this (UInt8.toNat_inj.1 (by omega))
        go_wp2_with fail
        go_quiet (fail)
        go_wp2_with fail
        go_roundw
        case rel => exact ⟨k + 1, by omega, by go_num, (hbel.alloc hbel.size _).trans (below_drewN (Below.refl _ _) _)⟩
        case measure => simp [intOf]; omega

theorem unesc_any (s : ByteArray) (w : World) (hw : LW w) (hs : s.size ≤ 100000000000) (h : 0 < s.size) : Calls Tryz.prog 47 #[.string s] w (UnPost w s.data.toList) := by
  by_cases hp : plainB s[0] = true
  · exact unesc_plain s w hs h hp
  have hp : plainB s[0] = false := by simpa using hp
  by_cases h0 : s[0] = 92
  · by_cases h1 : s.size = 1
    · exact unesc_one s w h1 hp h0
    have h2 : 2 ≤ s.size := by omega
    by_cases a0 : ec 0 = s[1]
    · exact unesc_loop s w hw hs h2 h0 0 (by omega) (fun j hj => by omega) (fun _ => a0)
    by_cases a1 : ec 1 = s[1]
    · exact unesc_loop s w hw hs h2 h0 1 (by omega) (fun j hj => by match j, hj with | 0, _ => exact a0) (fun _ => a1)
    by_cases a2 : ec 2 = s[1]
    · exact unesc_loop s w hw hs h2 h0 2 (by omega) (fun j hj => by match j, hj with | 0, _ => exact a0 | 1, _ => exact a1) (fun _ => a2)
    by_cases a3 : ec 3 = s[1]
    · exact unesc_loop s w hw hs h2 h0 3 (by omega) (fun j hj => by match j, hj with | 0, _ => exact a0 | 1, _ => exact a1 | 2, _ => exact a2) (fun _ => a3)
    by_cases a4 : ec 4 = s[1]
    · exact unesc_loop s w hw hs h2 h0 4 (by omega) (fun j hj => by match j, hj with | 0, _ => exact a0 | 1, _ => exact a1 | 2, _ => exact a2 | 3, _ => exact a3) (fun _ => a4)
    · exact unesc_loop s w hw hs h2 h0 5 (by omega) (fun j hj => by match j, hj with | 0, _ => exact a0 | 1, _ => exact a1 | 2, _ => exact a2 | 3, _ => exact a3 | 4, _ => exact a4) (fun hh => absurd hh (by omega))
  · exact unesc_first s w hs h hp h0
end Go.Proofs.YtoapfldmkpobmaaGreatDoor
