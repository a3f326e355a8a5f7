/- Arenas that are none. -/
import Derived.Test.YtalnhbjpfnodiaaZj
namespace Go.Proofs.Ytalnhbjpfnodiaa
open Go.RowKit
theorem has_nil (a b : Int) (w : World) : Calls Try.prog 59 #[.pointer none, .int .i64 a, .int .i64 b] w fun e w' => e = .returned (.int .i64 1) ∧ w = w' := by
  go_enter Try.func59, Try.ntmps59
  go_wp2
  go_ret
  exact ⟨rfl, rfl⟩
theorem room_nil (a : Int) (w : World) : Calls Try.prog 55 #[.pointer none, .int .i64 a] w fun e w' => e = .returned (.int .i64 1) ∧ w = w' := by
  go_enter Try.func55, Try.ntmps55
  go_wp2
  go_ret
  exact ⟨rfl, rfl⟩
theorem rhas_nil (a b : Int) (w : World) : Calls Try.prog 71 #[.pointer none, .int .i64 a, .int .i64 b] w fun e w' => e = .returned (.int .i64 1) ∧ w = w' := by
  go_enter Try.func71, Try.ntmps71
  go_wp2
  go_ret
  exact ⟨rfl, rfl⟩
theorem rroom_nil (a : Int) (w : World) : Calls Try.prog 69 #[.pointer none, .int .i64 a] w fun e w' => e = .returned (.int .i64 1) ∧ w = w' := by
  go_enter Try.func69, Try.ntmps69
  go_wp2
  go_ret
  exact ⟨rfl, rfl⟩
end Go.Proofs.Ytalnhbjpfnodiaa

/- MasksCalls. -/
namespace Go.Proofs.Ytalnhbjpfnodiaa
open Go.RowKit
/-- Bytes in memory. -/
def U8S (W : World) (v : Value) (l : List Nat) : Prop :=
  ∃ q c, v = .slice q l.length c ∧ ∀ (i x : Nat), l[i]? = some x → ∃ b o, q = some ⟨b, o, none⟩ ∧ b < W.heap.size ∧ W.cell? ⟨b, o + i, none⟩ = some (.int .u8 (x : Int))
def CallsR (w : World) (pa pb : Nat) (wr : World) : Prop := ∃ (cs : List Nat) (tr : List (Nat × Nat)), Pr w wr no pa pb cs [] tr cs [] tr
theorem Pr.of_below {w0 w1 W : World} {pa pb : Nat} {ca cb : List Nat} {ra rb : List Rg} {ta tb : List (Nat × Nat)} (h : Pr w1 W no pa pb ca ra ta cb rb tb) (hb : Below w0.heap.size w0 w1) : Pr w0 W no pa pb ca ra ta cb rb tb := by
  obtain ⟨⟨Fa, Fb, ha, hb2, ar, rr⟩, hbel, hx⟩ := h
  exact ⟨⟨Fa, Fb, fun k hk => ⟨Nat.le_trans hb.size (ha k hk).1, (ha k hk).2⟩, fun k hk => ⟨Nat.le_trans hb.size (hb2 k hk).1, (hb2 k hk).2⟩, ar, rr⟩, hb.trans (hbel.mono hb.size), hx⟩
theorem pr_drew {w W : World} {pa pb : Nat} {ca cb : List Nat} {ra rb : List Rg} {ta tb : List (Nat × Nat)} {X : Nat → Prop} (h : Pr w W X pa pb ca ra ta cb rb tb) : Pr w W.drew X pa pb ca ra ta cb rb tb := h.below (Below.refl _ W).drew
end Go.Proofs.Ytalnhbjpfnodiaa

/- The arguments that came in. -/
namespace Go.Proofs.Ytalnhbjpfnodiaa
open Go.ChangeShapes Go.WideShapes Go.ChangeAt Go.ChangeMaps Go.RowKit
def Wf (xs : List Nat) : Prop := ∀ x ∈ xs, x < 2 ^ 64
set_option maxRecDepth 100000 in
theorem open_row {H : Type} {enc : TypeId × Value → H} {W : World} {r : Reach} {b0 fuel : Nat} {v : Value} {d : DataW H} {ps : List MemPlace} (hval : Value.okWide Try.prog W r b0 27 v)
    (h : DataW.trod enc Try.prog W 0 (fun _ => true) true fuel 27 v.cells.toList = some (d, ps)) : ∃ xs, URow W v xs ∧ Wf xs := by
  obtain ⟨a, len, cap, rfl⟩ := okWide_slice Try.underlying27 hval
  rcases open_ints Try.underlying27 Try.underlying22 (by kernel_rfl) h with ⟨hcs, _⟩ | ⟨x, l, c, zs, hcs, _, hl, _, hz, _, hcell, hwf⟩
  · simp [Value.cells] at hcs
    obtain ⟨rfl, rfl, rfl⟩ := hcs
    exact ⟨[], ⟨none, 0, rfl, Nat.le_refl _, fun i x hx => by simp at hx⟩, fun x hx => by cases hx⟩
  · simp [Value.cells] at hcs
    obtain ⟨rfl, rfl, rfl⟩ := hcs
    simp only [if_true] at hz
    have hlen : ((zs.take len).map Int.toNat).length = len := by simp; omega
    refine ⟨(zs.take len).map Int.toNat, ⟨some x, cap, by rw [hlen], by rw [hlen]; exact hl, fun i y hy => ?_⟩, ?_⟩
    · have hi : i < len := by have := (List.getElem?_eq_some_iff.1 hy).1; omega
      have h0 := hcell 0 (by omega)
      obtain ⟨b, o, rfl⟩ := addr_none h0
      have hc := hcell i (by omega)
      rw [add_none] at hc
      rw [List.getElem?_map, List.getElem?_take, if_pos hi] at hy
      obtain ⟨z, hz', rfl⟩ := Option.map_eq_some_iff.1 hy
      have hzw := wf_u64 (hwf z (List.mem_of_getElem? hz'))
      refine ⟨b, o, rfl, ?_⟩
      rw [hc, List.getD_eq_getElem?_getD, hz', Option.getD_some, Int.toNat_of_nonneg hzw.1]
    · intro y hy
      obtain ⟨z, hz', rfl⟩ := List.mem_map.1 hy
      have := wf_u64 (hwf z (List.mem_of_mem_take hz'))
      omega
set_option maxRecDepth 100000 in
theorem open_u8s {H : Type} {enc : TypeId × Value → H} {W : World} {r : Reach} {b0 fuel : Nat} {v : Value} {d : DataW H} {ps : List MemPlace} (hval : Value.okWide Try.prog W r b0 29 v)
    (h : DataW.trod enc Try.prog W 0 (fun _ => true) true fuel 29 v.cells.toList = some (d, ps)) : ∃ xs, U8S W v xs := by
  obtain ⟨a, len, cap, rfl⟩ := okWide_slice Try.underlying29 hval
  rcases open_ints Try.underlying29 Try.underlying5 (by kernel_rfl) h with ⟨hcs, _⟩ | ⟨x, l, c, zs, hcs, _, hl, _, hz, _, hcell, hwf⟩
  · simp [Value.cells] at hcs
    obtain ⟨rfl, rfl, rfl⟩ := hcs
    exact ⟨[], none, 0, rfl, fun i x hx => by simp at hx⟩
  · simp [Value.cells] at hcs
    obtain ⟨rfl, rfl, rfl⟩ := hcs
    simp only [if_true] at hz
    have hlen : ((zs.take len).map Int.toNat).length = len := by simp; omega
    refine ⟨(zs.take len).map Int.toNat, some x, cap, by rw [hlen], fun i y hy => ?_⟩
    · have hi : i < len := by have := (List.getElem?_eq_some_iff.1 hy).1; omega
      have h0 := hcell 0 (by omega)
      obtain ⟨b, o, rfl⟩ := addr_none h0
      have hc := hcell i (by omega)
      rw [add_none] at hc
      rw [List.getElem?_map, List.getElem?_take, if_pos hi] at hy
      obtain ⟨z, hz', rfl⟩ := Option.map_eq_some_iff.1 hy
      have hzw := wf_u8 (hwf z (List.mem_of_getElem? hz'))
      refine ⟨b, o, rfl, World.block_lt_of_cell? W _ hc, ?_⟩
      rw [hc, List.getD_eq_getElem?_getD, hz', Option.getD_some, Int.toNat_of_nonneg hzw.1]
theorem list4 {α : Type} (l : List α) (h : (⟨l⟩ : Array α).size = 4) : ∃ a b c d, l = [a, b, c, d] := by
  match l, h with
  | [a, b, c, d], _ => exact ⟨a, b, c, d, rfl⟩
end Go.Proofs.Ytalnhbjpfnodiaa
