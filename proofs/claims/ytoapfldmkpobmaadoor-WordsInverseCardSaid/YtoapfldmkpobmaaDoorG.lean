/- Layer 1: Quote. -/
import Derived.Test.YtoapfldmkpobmaaDoorF
namespace Go.Proofs.YtoapfldmkpobmaaDoor
open Go.RowKit
theorem drop_u8v (l m : List UInt8) : l.map u8v ++ m.map u8v = (l ++ m).map u8v := by rw [List.map_append]
theorem own_map {B n n' : Nat} {v : Value} {w : World} {xs ys zs : List UInt8} (h : w.ownsRow B 5 1 v n (xs.map u8v ++ ys.map u8v)) (e : xs ++ ys = zs) (hn : n = n') : w.ownsRow B 5 1 v n' (zs.map u8v) := by
  rw [← List.map_append, e, hn] at h; exact h
theorem cast_own {B n n' : Nat} {v : Value} {w : World} {xs ys : List UInt8} (h : w.ownsRow B 5 1 v n (xs.map u8v)) (hn : n = n') (hx : xs = ys) : w.ownsRow B 5 1 v n' (ys.map u8v) := by
  subst hn; subst hx; exact h
theorem AppPost.below {B n : Nat} {v : Value} {xs : List Value} {w wr w2 : World} {o : Obj} (hown : wr.ownsRow B 5 1 v n xs) (hb : Below B w wr) (hg : (wr.alloc o).grownBy w2 v.ownBlock) (hB : B ≤ wr.heap.size := by first | exact Below.size ‹_› | omega) : Below B w w2 :=
  (hb.alloc hB o).grown hg (by simp; omega) (fun k hk => (hown.lt k hk).1)
set_option maxRecDepth 100000 in
set_option maxHeartbeats 800000 in
theorem quote_any (s : ByteArray) (w : World) (hw : LW w) (hs : s.size ≤ 100000000000) :
    Calls Tryd.prog 11 #[.string s] w fun e w' => e = .returned (.string ⟨(quoteL s.data.toList).toArray⟩) ∧ Below w.heap.size w w' := by
  obtain ⟨i0, hi, hz0, hz1, hz2⟩ := info_parts info_u8
  have hmk : (Instr.makeSlice 50 (.int .i64 0) (.int .i64 ((s.size : Int) + 2))).run Tryd.prog w = .ok (.slice (some ⟨w.heap.size, 0, none⟩) 0 (s.size + 2)) (w.alloc (.cells (madeCells #[.int .u8 0] (s.size + 2)) 5)) := by
    have := run_make (P := Tryd.prog) w 50 5 i0 (.int .u8 0) Tryd.underlying50 hi hz0 .i64 .i64 0 ((s.size : Int) + 2) (by omega) (by omega) (by rw [hz2]; omega) (by omega)
    rw [hz1, show ((s.size : Int) + 2).toNat = s.size + 2 by omega, Nat.mul_one] at this
    exact this
  obtain ⟨o, ho⟩ : ∃ o, o = Obj.cells (madeCells #[.int .u8 0] (s.size + 2)) 5 := ⟨_, rfl⟩
  have hown0 : (w.alloc o).ownsRow w.heap.size 5 1 (.slice (some ⟨w.heap.size, 0, none⟩) 0 (s.size + 2)) 0 (([] : List UInt8).map u8v) := by
    rw [ho]; exact World.ownsRow_made w _ _ (Nat.le_refl _) (by simp [maxLen]; omega) (by rw [size_madeCells, Nat.mul_one])
  rw [← ho] at hmk
  clear ho
  go_enter Tryd.func11, Tryd.ntmps11
  go_wp2_with (first
    | (at_builtin; refine wpList_append_own _ rfl _ _ 50 rfl _ 5 i0 (.int .u8 0) 1 1 Tryd.underlying50 hi hz0 hz1 hz2 rfl (by decide) _ 0 _ rfl (hown0.alloc _) ⟨w.heap.size + 1, 0, none⟩ ([34]).length ([34]).length (([34]).map u8v) rfl rfl (new_cells_at _ (w.heap.size + 1) (by simp) [34]) (u8v_one _) ?c3 ?c4 ?c5 ?_)
    )
  case c3 => simp [maxLen]
  case c4 => simp
  case c5 => simp; omega
  intro v1 w1 hown1 hgrow1 _
  have hb1 : Below w.heap.size w w1 := (((Below.refl _ w).alloc (Nat.le_refl _) o).alloc (by simp) _).grown hgrow1 (by simp; omega) (by intro k hk; simp [Value.ownBlock] at hk; omega)
  have hl1 : w1.ownsRow w.heap.size 5 1 v1 (1 + (escAll (s.data.toList.take 0)).length) ((34 :: escAll (s.data.toList.take 0)).map u8v) := own_map (xs := []) (ys := [34]) hown1 rfl rfl
  clear hown0 hmk hown1 hgrow1
  go_wp2_with fail
  go_loopw [3, 14] (fun v i wr => ∃ k : Nat, k ≤ s.size ∧ i = .int .i64 k ∧ wr.ownsRow w.heap.size 5 1 v (1 + (escAll (s.data.toList.take k)).length) ((34 :: escAll (s.data.toList.take k)).map u8v) ∧ Below w.heap.size w wr) (fun _ i _ => s.size - (intOf i).toNat)
  case atStart => exact ⟨0, by omega, rfl, hl1, hb1⟩
  case round =>
    obtain ⟨k, hk, rfl, hown2, hbel⟩ := hrel
    clear hl1 hb1
    have hle := escAll_le (s.data.toList.take k)
    have hlk : (s.data.toList.take k).length ≤ k := List.length_take_le _ _
    by_cases hlt : k < s.size
    · have hwr := hw.below hbel
      have hc := Lib.hid (app_any w.heap.size _ _ _ s[k] _ hwr hown2 hbel.size (by omega))
      have hsn := Lib.hid (escAll_snoc s k hlt)
      clear hwr hown2 hle hlk
      go_wp2_with (go_at_call 22; refine hc.out.mono ?_; rintro e w2 ⟨v2, rfl, hown3, hb3⟩)
      go_roundw
      case rel => exact ⟨k + 1, by omega, by go_num, by rw [hsn.out]; exact cast_own hown3 (by simp; omega) (by simp), hbel.trans (hb3.mono (Nat.le_refl _))⟩
      case measure => simp [intOf]; omega
    · obtain rfl : k = s.size := by omega
      clear hw
      rw [take_size] at hown2 hle
      rw [length_data] at hle
      go_wp2_with (first
        | (at_builtin; refine wpList_append_own _ rfl _ _ 50 rfl _ 5 i0 (.int .u8 0) 1 1 Tryd.underlying50 hi hz0 hz1 hz2 rfl (by decide) _ _ _ rfl (hown2.alloc _) ⟨wr.heap.size, 0, none⟩ ([34]).length ([34]).length (([34]).map u8v) rfl rfl (new_cells_at _ wr.heap.size (by simp) [34]) (u8v_one _) ?c3 ?c4 ?c5 ?_)
        )
      case c3 => simp [maxLen]; omega
      case c4 => simp; omega
      case c5 => simp; have := hbel.size; omega
      intro v2 w2 hown3 hgrow3 _
      have hq : w2.ownsRow w.heap.size 5 1 v2 (1 + (escAll s.data.toList).length + 1) ((quoteL s.data.toList).map u8v) := own_map hown3 rfl rfl
      have hcv := conv_own hq
      have hb4 : Below w.heap.size w w2 := AppPost.below hown2 hbel hgrow3
      clear hown3 hgrow3 hq
      go_wp2
      go_ret
      exact ⟨rfl, hb4⟩
theorem own_below {B n : Nat} {v : Value} {xs : List Value} {w w1 : World} (h : w.ownsRow B 5 1 v n xs) (hb : Below w.heap.size w w1) : w1.ownsRow B 5 1 v n xs := by
  refine ⟨h.1, ?_⟩
  rcases h.2 with h1 | ⟨g, cap, cur, e, hg, hh, r⟩
  · exact .inl h1
  · refine .inr ⟨g, cap, cur, e, hg, ?_, r⟩
    have hlt := (World.ownsRow.lt h g (by rw [e]; rfl)).2
    rw [hb.block g hlt]; exact hh
end Go.Proofs.YtoapfldmkpobmaaDoor
