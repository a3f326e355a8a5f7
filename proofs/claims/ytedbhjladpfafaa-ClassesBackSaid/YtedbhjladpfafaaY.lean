/- Layer 3: sets, bytes and numbers that came in, opened. -/
import Derived.Test.YtedbhjladpfafaaF
import Derived.ProofKit
import Derived.OpenShut
namespace Go.Proofs.Ytedbhjladpfafaa
open Go.ChangeShapes Go.WideShapes Go.ChangeAt Go.ChangeMaps Go.RowKit
theorem own : ownKnob Try.prog.godebug = none := by kernel_rfl
theorem laidOut : laidOutB Try.prog = true := by kernel_rfl
theorem addr_none {W : World} {a : Addr} {v : Value} (h : W.cell? (a.add 0) = some v) : ∃ b o, a = ⟨b, o, none⟩ := by
  obtain ⟨b, o, sp⟩ := a
  cases sp with
  | none => exact ⟨b, o, rfl⟩
  | some z =>
    simp only [Addr.add, if_true] at h
    unfold World.cell? at h
    simp at h
    split at h <;> cases h
theorem add_none (b o i : Nat) : (⟨b, o, none⟩ : Addr).add i = ⟨b, o + i, none⟩ := by cases i <;> simp [Addr.add]
theorem wf_u64 {n : Int} (h : (Lit.int .u64 n).wf = true) : 0 ≤ n ∧ n < 18446744073709551616 := by
  unfold Lit.wf at h
  have e1 : IntKind.u64.min = 0 := by decide
  have e2 : IntKind.u64.max = 18446744073709551615 := by decide
  simp [e1, e2] at h; omega
theorem wf_u8 {n : Int} (h : (Lit.int .u8 n).wf = true) : 0 ≤ n ∧ n < 256 := by
  unfold Lit.wf at h
  have e1 : IntKind.u8.min = 0 := by decide
  have e2 : IntKind.u8.max = 255 := by decide
  simp [e1, e2] at h; omega
theorem wf_i64 {n : Int} (h : (Lit.int .i64 n).wf = true) : -9223372036854775808 ≤ n ∧ n ≤ 9223372036854775807 := by
  unfold Lit.wf at h
  have e1 : IntKind.i64.min = -9223372036854775808 := by decide
  have e2 : IntKind.i64.max = 9223372036854775807 := by decide
  simp [e1, e2] at h; omega
theorem list4 {α : Type} (l : List α) (h : (⟨l⟩ : Array α).size = 4) : ∃ a b c d, l = [a, b, c, d] := by
  match l, h with
  | [a, b, c, d], _ => exact ⟨a, b, c, d, rfl⟩
theorem open_set {H : Type} {enc : TypeId × Value → H} {W : World} {r : Reach} {b0 fuel : Nat} {v : Value} {d : DataW H} {ps : List MemPlace} (hval : Value.okWide Try.prog W r b0 26 v)
    (h : DataW.trod enc Try.prog W 0 (fun _ => true) true fuel 26 v.cells.toList = some (d, ps)) : ∃ p, v = sv p := by
  obtain ⟨cs, rfl, hsz, _⟩ : ∃ cs, v = .agg cs ∧ cs.size = Try.prog.cellsOf 26 ∧ Row.okWide Try.prog W r b0 26 cs := by
    simpa [Value.okWide, Try.underlying26] using hval
  rw [show Try.prog.cellsOf 26 = 4 by kernel_rfl] at hsz
  obtain ⟨l⟩ := cs
  obtain ⟨c0, c1, c2, c3, rfl⟩ := list4 l hsz
  obtain ⟨xs, m, _, _, _, hl, hel⟩ := DataW.trod_array Try.underlying26 h
  rw [show Try.prog.cellsOf 24 = 1 by kernel_rfl] at hel
  match xs, hl, hel with
  | [x0, x1, x2, x3], _, hel =>
    obtain ⟨n0, e0, _, w0⟩ := DataW.trod_int Try.underlying24 (show DataW.trod enc Try.prog W 0 _ true m 24 _ = some x0 from hel 0 (by omega))
    obtain ⟨n1, e1, _, w1⟩ := DataW.trod_int Try.underlying24 (show DataW.trod enc Try.prog W 0 _ true m 24 _ = some x1 from hel 1 (by omega))
    obtain ⟨n2, e2, _, w2⟩ := DataW.trod_int Try.underlying24 (show DataW.trod enc Try.prog W 0 _ true m 24 _ = some x2 from hel 2 (by omega))
    obtain ⟨n3, e3, _, w3⟩ := DataW.trod_int Try.underlying24 (show DataW.trod enc Try.prog W 0 _ true m 24 _ = some x3 from hel 3 (by omega))
    simp [Value.cells] at e0 e1 e2 e3
    subst e0; subst e1; subst e2; subst e3
    have b0 := wf_u64 w0
    have b1 := wf_u64 w1
    have b2 := wf_u64 w2
    have b3 := wf_u64 w3
    obtain ⟨m0, rfl⟩ : ∃ m : Nat, n0 = m := ⟨n0.toNat, by omega⟩
    obtain ⟨m1, rfl⟩ : ∃ m : Nat, n1 = m := ⟨n1.toNat, by omega⟩
    obtain ⟨m2, rfl⟩ : ∃ m : Nat, n2 = m := ⟨n2.toNat, by omega⟩
    obtain ⟨m3, rfl⟩ : ∃ m : Nat, n3 = m := ⟨n3.toNat, by omega⟩
    exact ⟨bitsOf m0 m1 m2 m3, congrArg Value.agg (sc_bitsOf (by omega) (by omega) (by omega) (by omega))⟩
theorem BR.nil (W : World) : BR W (.slice none 0 0) [] := ⟨Option.none, 0, rfl, Nat.le_refl _, fun i x hi => by simp at hi⟩
theorem open_bytes {H : Type} {enc : TypeId × Value → H} {W : World} {r : Reach} {b0 fuel : Nat} {v : Value} {d : DataW H} {ps : List MemPlace} (hval : Value.okWide Try.prog W r b0 22 v)
    (h : DataW.trod enc Try.prog W 0 (fun _ => true) true fuel 22 v.cells.toList = some (d, ps)) : ∃ xs, BR W v xs := by
  obtain ⟨a, len, cap, rfl⟩ := okWide_slice Try.underlying22 hval
  rcases open_ints Try.underlying22 Try.underlying5 (by kernel_rfl) h with ⟨hcs, _⟩ | ⟨x, l, c, zs, hcs, _, hl, _, hz, _, hcell, hwf⟩
  · simp [Value.cells] at hcs
    obtain ⟨rfl, rfl, rfl⟩ := hcs
    exact ⟨[], BR.nil W⟩
  · simp [Value.cells] at hcs
    obtain ⟨rfl, rfl, rfl⟩ := hcs
    simp only [if_true] at hz
    have hlen : ((zs.take len).map Int.toNat).length = len := by simp; omega
    refine ⟨(zs.take len).map Int.toNat, some x, cap, by rw [hlen], by rw [hlen]; exact hl, fun i y hy => ?_⟩
    have hi : i < len := by have := (List.getElem?_eq_some_iff.1 hy).1; omega
    have h0 := hcell 0 (by omega)
    obtain ⟨b, o, rfl⟩ := addr_none h0
    have hc := hcell i (by omega)
    rw [add_none] at hc
    rw [List.getElem?_map, List.getElem?_take, if_pos hi] at hy
    obtain ⟨z, hz', rfl⟩ := Option.map_eq_some_iff.1 hy
    have hzw := wf_u8 (hwf z (List.mem_of_getElem? hz'))
    refine ⟨by omega, b, o, rfl, ?_⟩
    rw [hc, List.getD_eq_getElem?_getD, hz', Option.getD_some, Int.toNat_of_nonneg hzw.1]
end Go.Proofs.Ytedbhjladpfafaa
