/- What the row's condition gives: the seven listed variables. -/
import Derived.Test.YtihhgnjkmhdpmaaGreatDoorZg
import Derived.Test.YtihhgnjkmhdpmaaGreatDoorY
namespace Go.Proofs.YtihhgnjkmhdpmaaGreatDoor
open Go.ChangeShapes Go.WideShapes Go.ChangeAt Go.ChangeMaps Go.RowKit W
theorem arr_of {cs : Array Value} {l : List Value} (h : cs.toList = l) : cs = l.toArray := by rw [← h]
theorem iface_of {P : Program} {w : World} {fuel : Nat} {t : TypeId} {m : Array (String × TypeId)} {cs : List Value} {n : String} {d : DataW Unit} {p : List MemPlace} (ht : P.underlying t = some (.interface m))
    (h : DataW.trod (fun _ => ()) P w 0 (fun _ => true) false fuel t cs = some (.iface n d, p)) : ∃ u v, cs = [.iface u v] := by
  cases fuel with
  | zero => simp [DataW.trod] at h
  | succ k =>
    unfold DataW.trod at h
    rw [ht] at h
    split at h <;> simp_all
theorem in_heap2 {w : World} {g : Nat} {o : Obj} (h : w.heap[g]? = some o) : g < w.heap.size := by
  rcases Nat.lt_or_ge g w.heap.size with h1 | h1
  · exact h1
  · rw [Array.getElem?_eq_none h1] at h; cases h
abbrev laid7 : List (String × DataW Unit) := [("math/bits.deBruijn32tab", Rows.laid_math_bits_deBruijn32tab), ("math/bits.deBruijn64tab", Rows.laid_math_bits_deBruijn64tab), ("internal/strconv.uint64pow10", Rows.laid_internal_strconv_uint64pow10), ("unicode/utf8.acceptRanges", Rows.laid_unicode_utf8_acceptRanges), ("strconv.ErrRange", Rows.laid_strconv_ErrRange), ("strconv.ErrSyntax", Rows.laid_strconv_ErrSyntax), ("unicode/utf8.first", Rows.laid_unicode_utf8_first)]
theorem lw_of_laid7 {W : World} (h : laidMet Tryz.prog laid7 W) (hs : W.ShapedOpen Tryz.prog) : LW W := by
  obtain ⟨ps, hl, _⟩ := h
  have sP := shape_at hs (g := 1) (t := 146) (of_decide_eq_true (by kernel_rfl)) (by kernel_rfl)
  have sE := shape_at hs (g := 3) (t := 58) (of_decide_eq_true (by kernel_rfl)) (by kernel_rfl)
  have sM := shape_at hs (g := 0) (t := 3) (of_decide_eq_true (by kernel_rfl)) (by kernel_rfl)
  obtain ⟨cP, hP⟩ := sP
  obtain ⟨cE, hE⟩ := sE
  obtain ⟨cM, hM⟩ := sM
  refine ⟨?_, ?_, ?_, in_heap2 hP, in_heap2 hE, in_heap2 hM⟩
  · obtain ⟨g, t, cs, fuel, p, h1, h2, h3, h4⟩ := laid_mem hl ("internal/strconv.uint64pow10", Rows.laid_internal_strconv_uint64pow10) (by simp [laid7])
    obtain rfl := Option.some.inj (gP10.symm.trans h1)
    obtain rfl : t = 146 := Option.some.inj (h2.symm.trans (by kernel_rfl))
    have := Lib.cells_of_tab (k := .u64) (zs := Lib.pow10Tab) Tryz.underlying146 Tryz.underlying35 (by kernel_rfl) (by kernel_rfl) h4
    unfold Lib.TabIs
    rw [h3, ← this]
  · obtain ⟨g, t, cs, fuel, p, h1, h2, h3, h4⟩ := laid_mem hl ("strconv.ErrRange", Rows.laid_strconv_ErrRange) (by simp [laid7])
    obtain rfl := Option.some.inj (gER.symm.trans h1)
    obtain rfl : t = 58 := Option.some.inj (h2.symm.trans (by kernel_rfl))
    obtain ⟨u, v, e⟩ := iface_of Tryz.underlying58 h4
    refine ⟨u, v, h3.trans ?_⟩
    rw [arr_of e]
  · exact cell_of_shapedOpen_int hs (of_decide_eq_true (by kernel_rfl)) (zero := #[.int .i64 0]) (t := 3) (by kernel_rfl) rfl (by kernel_rfl) (by kernel_rfl) Tryz.underlying3
theorem door_shaped7 (os : Os) (args : Array Value) : ((World.laidAll Tryz.prog os laid7).forCall (fun _ _ => 0) ⟨#[], args, []⟩).Shaped Tryz.prog := World.shaped_of_ZipB (by kernel_rfl) (by kernel_rfl)
theorem door_met7 (os : Os) (args : Array Value) : laidMetH Tryz.prog laid7 ((World.laidAll Tryz.prog os laid7).forCall (fun _ _ => 0) ⟨#[], args, []⟩).memory := by
  rw [MakeChecks.laidMetH_plain _ _ _ (by kernel_rfl)]
  exact laidMet_laidAll _ (by kernel_rfl) (by kernel_rfl)
end Go.Proofs.YtihhgnjkmhdpmaaGreatDoor
