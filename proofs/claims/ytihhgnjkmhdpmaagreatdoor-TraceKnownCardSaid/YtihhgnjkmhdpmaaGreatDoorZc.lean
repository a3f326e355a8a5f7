/- parseRun: a line that has not three parts. -/
import Derived.Test.YtihhgnjkmhdpmaaGreatDoorZp
import Derived.Test.YtihhgnjkmhdpmaaGreatDoorZa
import Derived.Test.YtihhgnjkmhdpmaaGreatDoorI
import Derived.Test.YtihhgnjkmhdpmaaGreatDoorWB
import Derived.Test.YtihhgnjkmhdpmaaGreatDoorShelf
namespace Go.Proofs.YtihhgnjkmhdpmaaGreatDoor
open Go.RowKit W
def LrPost (w : World) (t : List UInt8) (e : Ending) (w' : World) : Prop := e = .returned (.tuple #[runV (lineR t).2, .int .i64 (lineR t).1]) ∧ Below w.heap.size w w'
theorem lineR_six {t : List UInt8} (h : ¬ (cutC 32 [] t).length = 3) : lineR t = (6, ⟨0, 0, 0⟩) := by
  unfold lineR
  split
  · rename_i hc; rw [hc] at h; exact absurd rfl h
  · rfl
theorem splitn_any (s : ByteArray) (W : World) (N : Nat) (hs : s.size ≤ 4000000000) (hm : ∃ m, W.cell? ⟨0, 0, none⟩ = some (.int .i64 m)) (hN : (N : Int) = min 4 ((s.size : Int) + 1)) :
    Calls Tryz.prog 47 #[.string s, .string ⟨#[32]⟩, .int .i64 4] W fun e w' => e = .returned (.slice (some ⟨W.heap.size, 0, none⟩) (Lib.splitB ⟨#[32]⟩ 0 (N - 1) s).length N) ∧ w' = W.alloc (.cells (Lib.cellsOf (Lib.splitB ⟨#[32]⟩ 0 (N - 1) s) N) 9) := by
  obtain ⟨m, hm⟩ := hm
  have GS := Lib.hid (Tryz.strings_genSplit s ⟨#[32]⟩ 0 4 N m W (by omega) hm (by decide) (by decide) (by decide) (by decide) (by rw [if_neg (by decide)]; exact hN))
  clear hN hm hs
  go_enter Tryz.func47, Tryz.ntmps47
  go_wp2_with (go_at_call 63; refine GS.out.mono ?_; rintro e w2 ⟨rfl, rfl⟩)
  go_ret
  exact ⟨rfl, rfl⟩
theorem heap_new (w : World) (o : Obj) : (w.alloc o).heap[w.heap.size]? = some o := by first | (rw [World.alloc_eq]; simp; done) | (unfold World.alloc; simp; done) | (simp [World.alloc_eq]; done)
abbrev zeroRun : Obj := .cells #[.int .i64 0, .int .i64 0, .int .i64 0] 56
set_option maxHeartbeats 800000 in
set_option maxRecDepth 100000 in
theorem parseRun_six (s : ByteArray) (w : World) (hw : LW w) (hs : s.size ≤ 4000000000) (h3 : ¬ (cutC 32 [] s.data.toList).length = 3) : Calls Tryz.prog 29 #[.string s] w (LrPost w s.data.toList) := by
  have HE := Lib.hid (lineR_six h3)
  have hb1 : Below w.heap.size w (w.alloc zeroRun) := (Below.refl _ w).alloc (Nat.le_refl _) _
  have hm := (hw.below hb1).ml
  obtain ⟨N, hN⟩ : ∃ N : Nat, (N : Int) = min 4 ((s.size : Int) + 1) := ⟨min 4 (s.size + 1), by omega⟩
  have h4 := (split4 s N hN).2 h3
  have GS := Lib.hid (splitn_any s (w.alloc zeroRun) N hs hm hN)
  have HB1 := Lib.hid hb1
  generalize Lib.splitB ⟨#[32]⟩ 0 (N - 1) s = L at GS h4
  have t1 : (((L.length : Nat) : Int) != 3) = true := by rw [bne_iff_ne]; omega
  clear hw hm hN h4 h3 hb1
  go_enter Tryz.func29, Tryz.ntmps29
  have x0 : ((w.alloc zeroRun).alloc (.cells (Lib.cellsOf L N) 9)).heap[w.heap.size]? = some zeroRun := (((Below.refl (w.alloc zeroRun).heap.size (w.alloc zeroRun)).alloc (Nat.le_refl _) _).block w.heap.size (by simp)).trans (heap_new w zeroRun)
  have z0 := (cell_blk x0 0).trans rfl
  have z1 := (cell_blk x0 1).trans rfl
  have z2 := (cell_blk x0 2).trans rfl
  have v0 := frozen_blk x0 0
  have v1 := frozen_blk x0 1
  have v2 := frozen_blk x0 2
  clear x0
  go_wp2_with (go_at_call 47; refine GS.out.mono ?_; rintro e w2 ⟨rfl, rfl⟩)
  refine bodyPost_ret (v := .tuple #[runV ⟨0, 0, 0⟩, .int .i64 6]) ?_ rfl ?_
  · simp [results, Tryz.results29, go_sem, z0, z1, z2, runV]
  · exact ⟨by rw [HE.out], HB1.out.alloc HB1.out.size _⟩
end Go.Proofs.YtihhgnjkmhdpmaaGreatDoor
