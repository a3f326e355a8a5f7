/- A slice of fields that came in, opened. -/
import Derived.Test.YtinffflkplhdiaaDoorDoor0
import Derived.Test.YtinffflkplhdiaaDoorZ
namespace Go.Proofs.YtinffflkplhdiaaDoor
open Go.ChangeShapes Go.WideShapes Go.ChangeAt Go.ChangeMaps Go.RowKit
set_option maxRecDepth 100000 in
/-- A slice of fields that came in. -/
theorem open_fields {H : Type} {enc : TypeId × Value → H} {W : World} {r : Reach} {b0 fuel : Nat} {v : Value} {d : DataW H} {ps : List MemPlace} (hval : Value.okWide Tryd.prog W r b0 32 v)
    (h : DataW.trod enc Tryd.prog W 0 (fun _ => true) true fuel 32 v.cells.toList = some (d, ps)) : ∃ xs, FSl W v xs := by
  obtain ⟨a, len, cap, rfl⟩ := okWide_slice Tryd.underlying32 hval
  rcases DataW.trod_slice Tryd.underlying32 h with ⟨hcs, _⟩ | ⟨x, l, c, elems, rest, n, _, hcs, _, _, hl, hm, hel, hat, _⟩
  · simp [Value.cells] at hcs
    obtain ⟨rfl, rfl, rfl⟩ := hcs
    exact ⟨[], none, 0, rfl, fun i x hx => by simp at hx⟩
  · simp [Value.cells] at hcs
    obtain ⟨rfl, rfl, rfl⟩ := hcs
    have ce : Tryd.prog.cellsOf 49 = 2 := by kernel_rfl
    have cs : Tryd.prog.cellsOf 9 = 1 := by kernel_rfl
    have cb : Tryd.prog.cellsOf 4 = 1 := by kernel_rfl
    rw [ce] at hat
    have key : ∀ i, i < len → ∃ s q, W.cell? ((x.add (i * 2)).add 0) = some (.string s) ∧ W.cell? ((x.add (i * 2)).add 1) = some (.bool q) := by
      intro i hi
      have h1 := hat i hi
      have h2 : elems[i]? = some elems[i] := List.getElem?_eq_getElem (by omega)
      rw [h2] at h1
      obtain ⟨l2, hc, ht⟩ := Option.bind_eq_some_iff.1 h1
      unfold World.cells? at hc
      rw [if_pos (Nat.zero_le _)] at hc
      simp [List.range_succ, List.mapM_cons, Option.bind_eq_some_iff] at hc
      obtain ⟨c0, hc0, _, ⟨c1, hc1, rfl⟩, rfl⟩ := hc
      obtain ⟨ys, m, _, _, _, hyl, hf⟩ := DataW.trod_struct Tryd.underlying49 ht
      match ys, hyl, hf with
      | [y0, y1], _, hf =>
        have hy0 : DataW.trod enc Tryd.prog W 0 (fun _ => true) true m 9 (([c0, c1].drop 0).take (Tryd.prog.cellsOf 9)) = some y0 := hf 0 _ rfl
        have hy1 : DataW.trod enc Tryd.prog W 0 (fun _ => true) true m 4 (([c0, c1].drop 1).take (Tryd.prog.cellsOf 4)) = some y1 := hf 1 _ rfl
        rw [cs] at hy0
        rw [cb] at hy1
        obtain ⟨s, hs, _⟩ := DataW.trod_string Tryd.underlying9 hy0
        obtain ⟨q, hq, _⟩ := DataW.trod_bool Tryd.underlying4 hy1
        simp at hs hq
        subst hs; subst hq
        exact ⟨s, q, hc0, hc1⟩
    obtain ⟨bk, o, sp⟩ := x
    have ad : ∀ j, W.cell? ((⟨bk, o, none⟩ : Addr).add j) = W.cell? ⟨bk, o + j, none⟩ := fun j => by cases j <;> simp [Addr.add]
    have hsp : 0 < len → sp = none := by
      intro h0
      obtain ⟨s, q, h1, _⟩ := key 0 h0
      simp only [Nat.zero_mul, Addr.add, if_true] at h1
      cases sp with
      | none => rfl
      | some z =>
        unfold World.cell? at h1
        simp at h1
        split at h1 <;> cases h1
    let it : Nat → Item := fun i => ⟨match W.cell? ⟨bk, o + i * 2, none⟩ with | some (.string s) => s.data.toList | _ => [], match W.cell? ⟨bk, o + i * 2 + 1, none⟩ with | some (.bool q) => q | _ => false, true⟩
    refine ⟨(List.range len).map it, _, cap, by rw [List.length_map, List.length_range], fun i x hx => ?_⟩
    rw [List.getElem?_map] at hx
    by_cases hi : i < len
    · rw [List.getElem?_range hi] at hx
      obtain rfl := Option.some.inj hx
      obtain rfl := hsp (by omega)
      obtain ⟨s, q, h1, h2⟩ := key i hi
      have e1 : W.cell? ⟨bk, o + i * 2, none⟩ = some (.string s) := by
        rw [← ad]; simpa [Addr.add] using h1
      have e2 : W.cell? ⟨bk, o + i * 2 + 1, none⟩ = some (.bool q) := by
        have : ((⟨bk, o, none⟩ : Addr).add (i * 2)).add 1 = ⟨bk, o + i * 2 + 1, none⟩ := by
          by_cases h : i * 2 = 0 <;> simp [Addr.add, h]
        rw [← this]; exact h2
      exact ⟨bk, o, rfl, by rw [e1]; simp [it, e1], by rw [e2]; simp [it, e2]⟩
    · rw [List.getElem?_eq_none (by simpa using hi)] at hx; cases hx
end Go.Proofs.YtinffflkplhdiaaDoor
