/- The calls that came in. -/
import Derived.Test.YtalnhbjpfnodiaaYq
namespace Go.Proofs.Ytalnhbjpfnodiaa
open Go.ChangeShapes Go.WideShapes Go.ChangeAt Go.ChangeMaps Go.RowKit
set_option maxRecDepth 100000 in
theorem cells_cc {H : Type} {enc : TypeId × Value → H} {W : World} {m : Nat} {d : DataW H} {ps : List MemPlace} {c0 c1 c2 : Value}
    (ht : DataW.trod enc Try.prog W 0 (fun _ => true) true m 36 [c0, c1, c2] = some (d, ps)) : ∃ x : Cc, x.ok ∧ c0 = .int .i64 x.x ∧ c1 = .int .i64 x.y ∧ c2 = .int .i64 x.k := by
  have ci : Try.prog.cellsOf 3 = 1 := by kernel_rfl
  obtain ⟨ys, m, _, _, _, hyl, hf⟩ := DataW.trod_struct Try.underlying36 ht
  match ys, hyl, hf with
  | [y0, y1, y2], _, hf =>
    have hy0 : DataW.trod enc Try.prog W 0 (fun _ => true) true m 3 (([c0, c1, c2].drop 0).take (Try.prog.cellsOf 3)) = some y0 := hf 0 _ rfl
    have hy1 : DataW.trod enc Try.prog W 0 (fun _ => true) true m 3 (([c0, c1, c2].drop 1).take (Try.prog.cellsOf 3)) = some y1 := hf 1 _ rfl
    have hy2 : DataW.trod enc Try.prog W 0 (fun _ => true) true m 3 (([c0, c1, c2].drop 2).take (Try.prog.cellsOf 3)) = some y2 := hf 2 _ rfl
    rw [ci] at hy0 hy1 hy2
    obtain ⟨n0, e0, _, w0⟩ := DataW.trod_int Try.underlying3 hy0
    obtain ⟨n1, e1, _, w1⟩ := DataW.trod_int Try.underlying3 hy1
    obtain ⟨n2, e2, _, w2⟩ := DataW.trod_int Try.underlying3 hy2
    simp at e0 e1 e2
    exact ⟨⟨n0, n1, n2⟩, ⟨wf_i64 w0, wf_i64 w1, wf_i64 w2⟩, e0, e1, e2⟩
set_option maxRecDepth 100000 in
theorem open_ccs {H : Type} {enc : TypeId × Value → H} {W : World} {r : Reach} {b0 fuel : Nat} {v : Value} {d : DataW H} {ps : List MemPlace} (hval : Value.okWide Try.prog W r b0 28 v)
    (h : DataW.trod enc Try.prog W 0 (fun _ => true) true fuel 28 v.cells.toList = some (d, ps)) : ∃ xs, CcS W v xs := by
  obtain ⟨a, len, cap, rfl⟩ := okWide_slice Try.underlying28 hval
  rcases DataW.trod_slice Try.underlying28 h with ⟨hcs, _⟩ | ⟨x, l, c, elems, rest, n, _, hcs, _, _, hl, hm, hel, hat, _⟩
  · simp [Value.cells] at hcs
    obtain ⟨rfl, rfl, rfl⟩ := hcs
    exact ⟨[], none, 0, rfl, fun i x hx => by simp at hx⟩
  · simp [Value.cells] at hcs
    obtain ⟨rfl, rfl, rfl⟩ := hcs
    have ce : Try.prog.cellsOf 36 = 3 := by kernel_rfl
    rw [ce] at hat
    have key : ∀ i, i < len → ∃ y : Cc, y.ok ∧ W.cell? ((x.add (i * 3)).add 0) = some (.int .i64 y.x) ∧ W.cell? ((x.add (i * 3)).add 1) = some (.int .i64 y.y) ∧ W.cell? ((x.add (i * 3)).add 2) = some (.int .i64 y.k) := by
      intro i hi
      have h1 := hat i hi
      have h2 : elems[i]? = some elems[i] := List.getElem?_eq_getElem (by omega)
      rw [h2] at h1
      obtain ⟨l2, hc, ht⟩ := Option.bind_eq_some_iff.1 h1
      unfold World.cells? at hc
      rw [if_pos (Nat.zero_le _)] at hc
      simp [List.range_succ, List.mapM_cons, Option.bind_eq_some_iff] at hc
      obtain ⟨c0, hc0, _, ⟨c1, hc1, _, ⟨c2, hc2, rfl⟩, rfl⟩, rfl⟩ := hc
      obtain ⟨y, hy, e0, e1, e2⟩ := cells_cc ht
      subst e0; subst e1; subst e2
      exact ⟨y, hy, hc0, hc1, hc2⟩
    obtain ⟨xs, hxl, hxs⟩ := list_of len key
    obtain ⟨bk, o, sp⟩ := x
    have hsp : 0 < len → sp = none := by
      intro h0
      obtain ⟨y, _, h1, _⟩ := key 0 h0
      simp only [Nat.zero_mul, Addr.add, if_true] at h1
      cases sp with
      | none => rfl
      | some z =>
        unfold World.cell? at h1
        simp at h1
        split at h1 <;> cases h1
    subst hxl
    refine ⟨xs, _, cap, rfl, fun i y hy => ?_⟩
    have hi := (List.getElem?_eq_some_iff.1 hy).1
    obtain rfl := hsp (by omega)
    obtain ⟨h0, h1, h2, h3⟩ := hxs i y hy
    rw [add_none, add_none] at h1 h2 h3
    exact ⟨bk, o, rfl, World.block_lt_of_cell? W ⟨bk, o + i * 3 + 0, none⟩ h1, h0, h1, h2, h3⟩
theorem list3 {α : Type} (l : List α) (h : (⟨l⟩ : Array α).size = 3) : ∃ a b c, l = [a, b, c] := by
  match l, h with
  | [a, b, c], _ => exact ⟨a, b, c, rfl⟩
set_option maxRecDepth 100000 in
theorem open_cc {H : Type} {enc : TypeId × Value → H} {W : World} {r : Reach} {b0 fuel : Nat} {v : Value} {d : DataW H} {ps : List MemPlace} (hval : Value.okWide Try.prog W r b0 36 v)
    (h : DataW.trod enc Try.prog W 0 (fun _ => true) true fuel 36 v.cells.toList = some (d, ps)) : ∃ x : Cc, x.ok ∧ v = ccA x := by
  obtain ⟨cs, rfl, hsz, _⟩ : ∃ cs, v = .agg cs ∧ cs.size = Try.prog.cellsOf 36 ∧ Row.okWide Try.prog W r b0 36 cs := by
    simpa [Value.okWide, Try.underlying36] using hval
  rw [show Try.prog.cellsOf 36 = 3 by kernel_rfl] at hsz
  obtain ⟨l⟩ := cs
  obtain ⟨c0, c1, c2, rfl⟩ := list3 l hsz
  obtain ⟨x, hx, e0, e1, e2⟩ := cells_cc h
  subst e0; subst e1; subst e2
  exact ⟨x, hx, rfl⟩
theorem calls_row (v1 v2 v3 : Value) (xs : List Nat) (l : List Cc) (ws : List Nat) (w : World) (h1 : URow w v1 xs) (h2 : CcS w v2 l) (h3 : U8S w v3 ws) (hw : Wf xs) : Calls Try.prog 4 #[v1, v2, v3] w fun e w' => e = .returned (.bool true) ∧ Below w.heap.size w w' := calls_any v1 v2 v3 xs l ws w h1 hw h2 h3
end Go.Proofs.Ytalnhbjpfnodiaa
