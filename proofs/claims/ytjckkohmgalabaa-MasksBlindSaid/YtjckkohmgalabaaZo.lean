/- The arguments that came in. -/
import Derived.Test.YtjckkohmgalabaaZn
namespace Go.Proofs.Ytjckkohmgalabaa
open Go.ChangeShapes Go.WideShapes Go.ChangeAt Go.ChangeMaps Go.RowKit
def Wf (xs : List Nat) : Prop := ∀ x ∈ xs, x < 2 ^ 64
set_option maxRecDepth 100000 in
theorem open_row {H : Type} {enc : TypeId × Value → H} {W : World} {r : Reach} {b0 fuel : Nat} {v : Value} {d : DataW H} {ps : List MemPlace} (hval : Value.okWide Try.prog W r b0 28 v)
    (h : DataW.trod enc Try.prog W 0 (fun _ => true) true fuel 28 v.cells.toList = some (d, ps)) : ∃ xs, URow W v xs ∧ Wf xs := by
  obtain ⟨a, len, cap, rfl⟩ := okWide_slice Try.underlying28 hval
  rcases open_ints Try.underlying28 Try.underlying22 (by kernel_rfl) h with ⟨hcs, _⟩ | ⟨x, l, c, zs, hcs, _, hl, _, hz, _, hcell, hwf⟩
  · simp [Value.cells] at hcs
    obtain ⟨rfl, rfl, rfl⟩ := hcs
    exact ⟨[], ⟨none, 0, rfl, Nat.le_refl _, fun i x hx => by simp at hx⟩, fun x hx => by cases hx⟩
  · simp [Value.cells] at hcs
    obtain ⟨rfl, rfl, rfl⟩ := hcs
    simp only [if_true] at hz
    have hlen : ((zs.take len).map Int.toNat).length = len := by simp; omega
    refine ⟨(zs.take len).map Int.toNat, ⟨some x, cap, by rw [hlen], by rw [hlen]; exact hl, fun i y hy => ?_⟩, ?_⟩
    · have hi : i < len := by have := (List.getElem?_eq_some_iff.1 hy).1; omega
      have h0 := hcell 0 (by omega)
      obtain ⟨b, o, rfl⟩ := addr_none h0
      have hc := hcell i (by omega)
      rw [add_none] at hc
      rw [List.getElem?_map, List.getElem?_take, if_pos hi] at hy
      obtain ⟨z, hz', rfl⟩ := Option.map_eq_some_iff.1 hy
      have hzw := wf_u64 (hwf z (List.mem_of_getElem? hz'))
      refine ⟨b, o, rfl, ?_⟩
      rw [hc, List.getD_eq_getElem?_getD, hz', Option.getD_some, Int.toNat_of_nonneg hzw.1]
    · intro y hy
      obtain ⟨z, hz', rfl⟩ := List.mem_map.1 hy
      have := wf_u64 (hwf z (List.mem_of_mem_take hz'))
      omega
set_option maxRecDepth 100000 in
theorem open_u8s {H : Type} {enc : TypeId × Value → H} {W : World} {r : Reach} {b0 fuel : Nat} {v : Value} {d : DataW H} {ps : List MemPlace} (hval : Value.okWide Try.prog W r b0 30 v)
    (h : DataW.trod enc Try.prog W 0 (fun _ => true) true fuel 30 v.cells.toList = some (d, ps)) : ∃ xs, U8S W v xs := by
  obtain ⟨a, len, cap, rfl⟩ := okWide_slice Try.underlying30 hval
  rcases open_ints Try.underlying30 Try.underlying5 (by kernel_rfl) h with ⟨hcs, _⟩ | ⟨x, l, c, zs, hcs, _, hl, _, hz, _, hcell, hwf⟩
  · simp [Value.cells] at hcs
    obtain ⟨rfl, rfl, rfl⟩ := hcs
    exact ⟨[], none, 0, rfl, fun i x hx => by simp at hx⟩
  · simp [Value.cells] at hcs
    obtain ⟨rfl, rfl, rfl⟩ := hcs
    simp only [if_true] at hz
    have hlen : ((zs.take len).map Int.toNat).length = len := by simp; omega
    refine ⟨(zs.take len).map Int.toNat, some x, cap, by rw [hlen], fun i y hy => ?_⟩
    · have hi : i < len := by have := (List.getElem?_eq_some_iff.1 hy).1; omega
      have h0 := hcell 0 (by omega)
      obtain ⟨b, o, rfl⟩ := addr_none h0
      have hc := hcell i (by omega)
      rw [add_none] at hc
      rw [List.getElem?_map, List.getElem?_take, if_pos hi] at hy
      obtain ⟨z, hz', rfl⟩ := Option.map_eq_some_iff.1 hy
      have hzw := wf_u8 (hwf z (List.mem_of_getElem? hz'))
      refine ⟨b, o, rfl, World.block_lt_of_cell? W _ hc, ?_⟩
      rw [hc, List.getD_eq_getElem?_getD, hz', Option.getD_some, Int.toNat_of_nonneg hzw.1]
set_option maxRecDepth 100000 in
theorem cells_cq {H : Type} {enc : TypeId × Value → H} {W : World} {m : Nat} {d : DataW H} {ps : List MemPlace} {c0 c1 c2 c3 : Value}
    (ht : DataW.trod enc Try.prog W 0 (fun _ => true) true m 39 [c0, c1, c2, c3] = some (d, ps)) : ∃ x : Cq, x.ok ∧ c0 = .int .u64 (x.m : Int) ∧ c1 = .int .i64 x.x ∧ c2 = .int .i64 x.y ∧ c3 = .int .i64 x.k := by
  have ci : Try.prog.cellsOf 3 = 1 := by kernel_rfl
  have cu : Try.prog.cellsOf 22 = 1 := by kernel_rfl
  obtain ⟨ys, m, _, _, _, hyl, hf⟩ := DataW.trod_struct Try.underlying39 ht
  match ys, hyl, hf with
  | [y0, y1, y2, y3], _, hf =>
    have hy0 : DataW.trod enc Try.prog W 0 (fun _ => true) true m 22 (([c0, c1, c2, c3].drop 0).take (Try.prog.cellsOf 22)) = some y0 := hf 0 _ rfl
    have hy1 : DataW.trod enc Try.prog W 0 (fun _ => true) true m 3 (([c0, c1, c2, c3].drop 1).take (Try.prog.cellsOf 3)) = some y1 := hf 1 _ rfl
    have hy2 : DataW.trod enc Try.prog W 0 (fun _ => true) true m 3 (([c0, c1, c2, c3].drop 2).take (Try.prog.cellsOf 3)) = some y2 := hf 2 _ rfl
    have hy3 : DataW.trod enc Try.prog W 0 (fun _ => true) true m 3 (([c0, c1, c2, c3].drop 3).take (Try.prog.cellsOf 3)) = some y3 := hf 3 _ rfl
    rw [cu] at hy0
    rw [ci] at hy1 hy2 hy3
    obtain ⟨n0, e0, _, w0⟩ := DataW.trod_int Try.underlying22 hy0
    obtain ⟨n1, e1, _, w1⟩ := DataW.trod_int Try.underlying3 hy1
    obtain ⟨n2, e2, _, w2⟩ := DataW.trod_int Try.underlying3 hy2
    obtain ⟨n3, e3, _, w3⟩ := DataW.trod_int Try.underlying3 hy3
    simp at e0 e1 e2 e3
    have b0 := wf_u64 w0
    refine ⟨⟨n0.toNat, n1, n2, n3⟩, ⟨by show n0.toNat < 2 ^ 64; omega, wf_i64 w1, wf_i64 w2, wf_i64 w3⟩, ?_, e1, e2, e3⟩
    rw [e0]; simp [Int.toNat_of_nonneg b0.1]
set_option maxRecDepth 100000 in
theorem open_cqs {H : Type} {enc : TypeId × Value → H} {W : World} {r : Reach} {b0 fuel : Nat} {v : Value} {d : DataW H} {ps : List MemPlace} (hval : Value.okWide Try.prog W r b0 29 v)
    (h : DataW.trod enc Try.prog W 0 (fun _ => true) true fuel 29 v.cells.toList = some (d, ps)) : ∃ xs, CqS W v xs := by
  obtain ⟨a, len, cap, rfl⟩ := okWide_slice Try.underlying29 hval
  rcases DataW.trod_slice Try.underlying29 h with ⟨hcs, _⟩ | ⟨x, l, c, elems, rest, n, _, hcs, _, _, hl, hm, hel, hat, _⟩
  · simp [Value.cells] at hcs
    obtain ⟨rfl, rfl, rfl⟩ := hcs
    exact ⟨[], none, 0, rfl, fun i x hx => by simp at hx⟩
  · simp [Value.cells] at hcs
    obtain ⟨rfl, rfl, rfl⟩ := hcs
    have ce : Try.prog.cellsOf 39 = 4 := by kernel_rfl
    rw [ce] at hat
    have key : ∀ i, i < len → ∃ y : Cq, y.ok ∧ W.cell? ((x.add (i * 4)).add 0) = some (.int .u64 (y.m : Int)) ∧ W.cell? ((x.add (i * 4)).add 1) = some (.int .i64 y.x) ∧ W.cell? ((x.add (i * 4)).add 2) = some (.int .i64 y.y) ∧ W.cell? ((x.add (i * 4)).add 3) = some (.int .i64 y.k) := by
      intro i hi
      have h1 := hat i hi
      have h2 : elems[i]? = some elems[i] := List.getElem?_eq_getElem (by omega)
      rw [h2] at h1
      obtain ⟨l2, hc, ht⟩ := Option.bind_eq_some_iff.1 h1
      unfold World.cells? at hc
      rw [if_pos (Nat.zero_le _)] at hc
      simp [List.range_succ, List.mapM_cons, Option.bind_eq_some_iff] at hc
      obtain ⟨c0, hc0, _, ⟨c1, hc1, _, ⟨c2, hc2, _, ⟨c3, hc3, rfl⟩, rfl⟩, rfl⟩, rfl⟩ := hc
      obtain ⟨y, hy, e0, e1, e2, e3⟩ := cells_cq ht
      subst e0; subst e1; subst e2; subst e3
      exact ⟨y, hy, hc0, hc1, hc2, hc3⟩
    obtain ⟨xs, hxl, hxs⟩ := list_of len key
    obtain ⟨bk, o, sp⟩ := x
    have hsp : 0 < len → sp = none := by
      intro h0
      obtain ⟨y, _, h1, _⟩ := key 0 h0
      simp only [Nat.zero_mul, Addr.add, if_true] at h1
      cases sp with
      | none => rfl
      | some z =>
        unfold World.cell? at h1
        simp at h1
        split at h1 <;> cases h1
    subst hxl
    refine ⟨xs, _, cap, rfl, fun i y hy => ?_⟩
    have hi := (List.getElem?_eq_some_iff.1 hy).1
    obtain rfl := hsp (by omega)
    obtain ⟨h0, h1, h2, h3, h4⟩ := hxs i y hy
    rw [add_none, add_none] at h1 h2 h3 h4
    exact ⟨bk, o, rfl, World.block_lt_of_cell? W ⟨bk, o + i * 4 + 0, none⟩ h1, h0, h1, h2, h3, h4⟩
theorem list4 {α : Type} (l : List α) (h : (⟨l⟩ : Array α).size = 4) : ∃ a b c d, l = [a, b, c, d] := by
  match l, h with
  | [a, b, c, d], _ => exact ⟨a, b, c, d, rfl⟩
theorem list8 {α : Type} (l : List α) (h : (⟨l⟩ : Array α).size = 8) : ∃ a b c d e f g i, l = [a, b, c, d, e, f, g, i] := by
  match l, h with
  | [a, b, c, d, e, f, g, i], _ => exact ⟨a, b, c, d, e, f, g, i, rfl⟩
set_option maxRecDepth 100000 in
theorem open_cq {H : Type} {enc : TypeId × Value → H} {W : World} {r : Reach} {b0 fuel : Nat} {v : Value} {d : DataW H} {ps : List MemPlace} (hval : Value.okWide Try.prog W r b0 39 v)
    (h : DataW.trod enc Try.prog W 0 (fun _ => true) true fuel 39 v.cells.toList = some (d, ps)) : ∃ x : Cq, x.ok ∧ v = cqA x := by
  obtain ⟨cs, rfl, hsz, _⟩ : ∃ cs, v = .agg cs ∧ cs.size = Try.prog.cellsOf 39 ∧ Row.okWide Try.prog W r b0 39 cs := by
    simpa [Value.okWide, Try.underlying39] using hval
  rw [show Try.prog.cellsOf 39 = 4 by kernel_rfl] at hsz
  obtain ⟨l⟩ := cs
  obtain ⟨c0, c1, c2, c3, rfl⟩ := list4 l hsz
  obtain ⟨x, hx, e0, e1, e2, e3⟩ := cells_cq h
  subst e0; subst e1; subst e2; subst e3
  exact ⟨x, hx, rfl⟩
/-- Two calls in an array. -/
def cq2A (c d : Cq) : Value := .agg #[.int .u64 (c.m : Int), .int .i64 c.x, .int .i64 c.y, .int .i64 c.k, .int .u64 (d.m : Int), .int .i64 d.x, .int .i64 d.y, .int .i64 d.k]
set_option maxRecDepth 100000 in
theorem open_cq2 {H : Type} {enc : TypeId × Value → H} {W : World} {r : Reach} {b0 fuel : Nat} {v : Value} {d : DataW H} {ps : List MemPlace} (hval : Value.okWide Try.prog W r b0 42 v)
    (h : DataW.trod enc Try.prog W 0 (fun _ => true) true fuel 42 v.cells.toList = some (d, ps)) : ∃ x y : Cq, x.ok ∧ y.ok ∧ v = cq2A x y := by
  obtain ⟨cs, rfl, hsz, _⟩ : ∃ cs, v = .agg cs ∧ cs.size = Try.prog.cellsOf 42 ∧ Row.okWide Try.prog W r b0 42 cs := by
    simpa [Value.okWide, Try.underlying42] using hval
  rw [show Try.prog.cellsOf 42 = 8 by kernel_rfl] at hsz
  obtain ⟨l⟩ := cs
  obtain ⟨c0, c1, c2, c3, c4, c5, c6, c7, rfl⟩ := list8 l hsz
  obtain ⟨xs, m, _, _, _, hl, hel⟩ := DataW.trod_array Try.underlying42 h
  rw [show Try.prog.cellsOf 39 = 4 by kernel_rfl] at hel
  match xs, hl, hel with
  | [x0, x1], _, hel =>
    obtain ⟨x, hx, e0, e1, e2, e3⟩ := cells_cq (show DataW.trod enc Try.prog W 0 _ true m 39 [c0, c1, c2, c3] = some x0 from hel 0 (by omega))
    obtain ⟨y, hy, e4, e5, e6, e7⟩ := cells_cq (show DataW.trod enc Try.prog W 0 _ true m 39 [c4, c5, c6, c7] = some x1 from hel 1 (by omega))
    subst e0; subst e1; subst e2; subst e3; subst e4; subst e5; subst e6; subst e7
    exact ⟨x, y, hx, hy, rfl⟩
theorem calls_row (v1 v2 v3 : Value) (xs : List Nat) (l : List Cq) (ws : List Nat) (w : World) (h1 : URow w v1 xs) (h2 : CqS w v2 l) (h3 : U8S w v3 ws) (hw : Wf xs) : Calls Try.prog 4 #[v1, v2, v3] w fun e w' => e = .returned (.bool true) ∧ Below w.heap.size w w' := calls_any v1 v2 v3 xs l ws w h1 hw h2 h3
end Go.Proofs.Ytjckkohmgalabaa
