/- Calls that came in, opened. -/
import Derived.Test.YtonkenicikjefaaO
import Derived.ProofKit
import Derived.OpenShut
namespace Go.Proofs.Ytonkenicikjefaa
open Go.ChangeShapes Go.WideShapes Go.ChangeAt Go.ChangeMaps Go.RowKit
theorem own : ownKnob Try.prog.godebug = none := by kernel_rfl
theorem laidOut : laidOutB Try.prog = true := by kernel_rfl
theorem addr_none {W : World} {a : Addr} {v : Value} (h : W.cell? (a.add 0) = some v) : ∃ b o, a = ⟨b, o, none⟩ := by
  obtain ⟨b, o, sp⟩ := a
  cases sp with
  | none => exact ⟨b, o, rfl⟩
  | some z =>
    simp only [Addr.add, if_true] at h
    unfold World.cell? at h
    simp at h
    split at h <;> cases h
theorem add_none (b o i : Nat) : (⟨b, o, none⟩ : Addr).add i = ⟨b, o + i, none⟩ := by cases i <;> simp [Addr.add]
theorem wf_u64 {n : Int} (h : (Lit.int .u64 n).wf = true) : 0 ≤ n ∧ n < 18446744073709551616 := by
  unfold Lit.wf at h
  have e1 : IntKind.u64.min = 0 := by decide
  have e2 : IntKind.u64.max = 18446744073709551615 := by decide
  simp [e1, e2] at h; omega
theorem wf_u16 {n : Int} (h : (Lit.int .u16 n).wf = true) : 0 ≤ n ∧ n < 65536 := by
  unfold Lit.wf at h
  have e1 : IntKind.u16.min = 0 := by decide
  have e2 : IntKind.u16.max = 65535 := by decide
  simp [e1, e2] at h; omega
theorem wf_u8 {n : Int} (h : (Lit.int .u8 n).wf = true) : 0 ≤ n ∧ n < 256 := by
  unfold Lit.wf at h
  have e1 : IntKind.u8.min = 0 := by decide
  have e2 : IntKind.u8.max = 255 := by decide
  simp [e1, e2] at h; omega
theorem wf_i64 {n : Int} (h : (Lit.int .i64 n).wf = true) : -9223372036854775808 ≤ n ∧ n ≤ 9223372036854775807 := by
  unfold Lit.wf at h
  have e1 : IntKind.i64.min = -9223372036854775808 := by decide
  have e2 : IntKind.i64.max = 9223372036854775807 := by decide
  simp [e1, e2] at h; omega
/-- A call. -/
structure Cl where
  what : Nat
  pos : Int
  num : Int
  val : Nat
  name : ByteArray
def Cl.ok (x : Cl) : Prop := x.what < 256 ∧ (-9223372036854775808 ≤ x.pos ∧ x.pos ≤ 9223372036854775807) ∧ (-9223372036854775808 ≤ x.num ∧ x.num ≤ 9223372036854775807) ∧ x.val < 18446744073709551616
def clA (x : Cl) : Value := .agg #[.int .u8 (x.what : Int), .int .i64 x.pos, .int .i64 x.num, .int .u64 (x.val : Int), .string x.name]
/-- Calls in memory. -/
def CS (W : World) (v : Value) (l : List Cl) : Prop :=
  ∃ q c, v = .slice q l.length c ∧ ∀ i x, l[i]? = some x → ∃ b o, q = some ⟨b, o, none⟩ ∧ b < W.heap.size ∧ x.ok ∧ W.cell? ⟨b, o + i * 5, none⟩ = some (.int .u8 (x.what : Int)) ∧ W.cell? ⟨b, o + i * 5 + 1, none⟩ = some (.int .i64 x.pos) ∧ W.cell? ⟨b, o + i * 5 + 2, none⟩ = some (.int .i64 x.num) ∧ W.cell? ⟨b, o + i * 5 + 3, none⟩ = some (.int .u64 (x.val : Int)) ∧ W.cell? ⟨b, o + i * 5 + 4, none⟩ = some (.string x.name)
theorem list_of {α : Type} {P : Nat → α → Prop} (n : Nat) (h : ∀ i, i < n → ∃ c, P i c) : ∃ l : List α, l.length = n ∧ ∀ i c, l[i]? = some c → P i c := by
  induction n with
  | zero => exact ⟨[], rfl, fun i c hc => by simp at hc⟩
  | succ n ih =>
    obtain ⟨l, hl, hp⟩ := ih (fun i hi => h i (by omega))
    obtain ⟨c, hc⟩ := h n (by omega)
    refine ⟨l ++ [c], by simp [hl], fun i x hx => ?_⟩
    by_cases hi : i < l.length
    · rw [List.getElem?_append_left hi] at hx; exact hp i x hx
    · have : i = n := by have := (List.getElem?_eq_some_iff.1 hx).1; simp at this; omega
      subst this
      rw [List.getElem?_append_right (by omega), hl, Nat.sub_self] at hx
      cases hx; exact hc
/-- Five cells that read as a call. -/
theorem cells_call {H : Type} {enc : TypeId × Value → H} {W : World} {m : Nat} {d : DataW H} {ps : List MemPlace} {c0 c1 c2 c3 c4 : Value}
    (ht : DataW.trod enc Try.prog W 0 (fun _ => true) true m 35 [c0, c1, c2, c3, c4] = some (d, ps)) : ∃ x : Cl, x.ok ∧ c0 = .int .u8 (x.what : Int) ∧ c1 = .int .i64 x.pos ∧ c2 = .int .i64 x.num ∧ c3 = .int .u64 (x.val : Int) ∧ c4 = .string x.name := by
  have cu8 : Try.prog.cellsOf 5 = 1 := by kernel_rfl
  have ci : Try.prog.cellsOf 3 = 1 := by kernel_rfl
  have cu : Try.prog.cellsOf 33 = 1 := by kernel_rfl
  have cs : Try.prog.cellsOf 9 = 1 := by kernel_rfl
  obtain ⟨ys, m, _, _, _, hyl, hf⟩ := DataW.trod_struct Try.underlying35 ht
  match ys, hyl, hf with
  | [y0, y1, y2, y3, y4], _, hf =>
    have hy0 : DataW.trod enc Try.prog W 0 (fun _ => true) true m 5 (([c0, c1, c2, c3, c4].drop 0).take (Try.prog.cellsOf 5)) = some y0 := hf 0 _ rfl
    have hy1 : DataW.trod enc Try.prog W 0 (fun _ => true) true m 3 (([c0, c1, c2, c3, c4].drop 1).take (Try.prog.cellsOf 3)) = some y1 := hf 1 _ rfl
    have hy2 : DataW.trod enc Try.prog W 0 (fun _ => true) true m 3 (([c0, c1, c2, c3, c4].drop 2).take (Try.prog.cellsOf 3)) = some y2 := hf 2 _ rfl
    have hy3 : DataW.trod enc Try.prog W 0 (fun _ => true) true m 33 (([c0, c1, c2, c3, c4].drop 3).take (Try.prog.cellsOf 33)) = some y3 := hf 3 _ rfl
    have hy4 : DataW.trod enc Try.prog W 0 (fun _ => true) true m 9 (([c0, c1, c2, c3, c4].drop 4).take (Try.prog.cellsOf 9)) = some y4 := hf 4 _ rfl
    rw [cu8] at hy0
    rw [ci] at hy1 hy2
    rw [cu] at hy3
    rw [cs] at hy4
    obtain ⟨n0, e0, _, w0⟩ := DataW.trod_int Try.underlying5 hy0
    obtain ⟨n1, e1, _, w1⟩ := DataW.trod_int Try.underlying3 hy1
    obtain ⟨n2, e2, _, w2⟩ := DataW.trod_int Try.underlying3 hy2
    obtain ⟨n3, e3, _, w3⟩ := DataW.trod_int Try.underlying33 hy3
    obtain ⟨s, e4, _⟩ := DataW.trod_string Try.underlying9 hy4
    simp at e0 e1 e2 e3 e4
    have b0 := wf_u8 w0
    have b1 := wf_i64 w1
    have b2 := wf_i64 w2
    have b3 := wf_u64 w3
    refine ⟨⟨n0.toNat, n1, n2, n3.toNat, s⟩, ⟨by show n0.toNat < 256; omega, b1, b2, by show n3.toNat < 18446744073709551616; omega⟩, ?_, e1, e2, ?_, e4⟩
    · rw [e0]; simp [Int.toNat_of_nonneg b0.1]
    · rw [e3]; simp [Int.toNat_of_nonneg b3.1]
set_option maxRecDepth 100000 in
theorem open_calls {H : Type} {enc : TypeId × Value → H} {W : World} {r : Reach} {b0 fuel : Nat} {v : Value} {d : DataW H} {ps : List MemPlace} (hval : Value.okWide Try.prog W r b0 22 v)
    (h : DataW.trod enc Try.prog W 0 (fun _ => true) true fuel 22 v.cells.toList = some (d, ps)) : ∃ xs, CS W v xs := by
  obtain ⟨a, len, cap, rfl⟩ := okWide_slice Try.underlying22 hval
  rcases DataW.trod_slice Try.underlying22 h with ⟨hcs, _⟩ | ⟨x, l, c, elems, rest, n, _, hcs, _, _, hl, hm, hel, hat, _⟩
  · simp [Value.cells] at hcs
    obtain ⟨rfl, rfl, rfl⟩ := hcs
    exact ⟨[], none, 0, rfl, fun i x hx => by simp at hx⟩
  · simp [Value.cells] at hcs
    obtain ⟨rfl, rfl, rfl⟩ := hcs
    have ce : Try.prog.cellsOf 35 = 5 := by kernel_rfl
    rw [ce] at hat
    have key : ∀ i, i < len → ∃ y : Cl, y.ok ∧ W.cell? ((x.add (i * 5)).add 0) = some (.int .u8 (y.what : Int)) ∧ W.cell? ((x.add (i * 5)).add 1) = some (.int .i64 y.pos) ∧ W.cell? ((x.add (i * 5)).add 2) = some (.int .i64 y.num) ∧ W.cell? ((x.add (i * 5)).add 3) = some (.int .u64 (y.val : Int)) ∧ W.cell? ((x.add (i * 5)).add 4) = some (.string y.name) := by
      intro i hi
      have h1 := hat i hi
      have h2 : elems[i]? = some elems[i] := List.getElem?_eq_getElem (by omega)
      rw [h2] at h1
      obtain ⟨l2, hc, ht⟩ := Option.bind_eq_some_iff.1 h1
      unfold World.cells? at hc
      rw [if_pos (Nat.zero_le _)] at hc
      simp [List.range_succ, List.mapM_cons, Option.bind_eq_some_iff] at hc
      obtain ⟨c0, hc0, _, ⟨c1, hc1, _, ⟨c2, hc2, _, ⟨c3, hc3, _, ⟨c4, hc4, rfl⟩, rfl⟩, rfl⟩, rfl⟩, rfl⟩ := hc
      obtain ⟨y, hy, e0, e1, e2, e3, e4⟩ := cells_call ht
      subst e0; subst e1; subst e2; subst e3; subst e4
      exact ⟨y, hy, hc0, hc1, hc2, hc3, hc4⟩
    obtain ⟨xs, hxl, hxs⟩ := list_of len key
    obtain ⟨bk, o, sp⟩ := x
    have hsp : 0 < len → sp = none := by
      intro h0
      obtain ⟨y, _, h1, _⟩ := key 0 h0
      simp only [Nat.zero_mul, Addr.add, if_true] at h1
      cases sp with
      | none => rfl
      | some z =>
        unfold World.cell? at h1
        simp at h1
        split at h1 <;> cases h1
    subst hxl
    refine ⟨xs, _, cap, rfl, fun i y hy => ?_⟩
    have hi := (List.getElem?_eq_some_iff.1 hy).1
    obtain rfl := hsp (by omega)
    obtain ⟨h0, h1, h2, h3, h4, h5⟩ := hxs i y hy
    rw [add_none, add_none] at h1 h2 h3 h4 h5
    exact ⟨bk, o, rfl, World.block_lt_of_cell? W ⟨bk, o + i * 5 + 0, none⟩ h1, h0, h1, h2, h3, h4, h5⟩
theorem list5 {α : Type} (l : List α) (h : (⟨l⟩ : Array α).size = 5) : ∃ a b c d e, l = [a, b, c, d, e] := by
  match l, h with
  | [a, b, c, d, e], _ => exact ⟨a, b, c, d, e, rfl⟩
theorem open_call {H : Type} {enc : TypeId × Value → H} {W : World} {r : Reach} {b0 fuel : Nat} {v : Value} {d : DataW H} {ps : List MemPlace} (hval : Value.okWide Try.prog W r b0 35 v)
    (h : DataW.trod enc Try.prog W 0 (fun _ => true) true fuel 35 v.cells.toList = some (d, ps)) : ∃ x : Cl, x.ok ∧ v = clA x := by
  obtain ⟨cs, rfl, hsz, _⟩ : ∃ cs, v = .agg cs ∧ cs.size = Try.prog.cellsOf 35 ∧ Row.okWide Try.prog W r b0 35 cs := by
    simpa [Value.okWide, Try.underlying35] using hval
  rw [show Try.prog.cellsOf 35 = 5 by kernel_rfl] at hsz
  obtain ⟨l⟩ := cs
  obtain ⟨c0, c1, c2, c3, c4, rfl⟩ := list5 l hsz
  obtain ⟨x, hx, e0, e1, e2, e3, e4⟩ := cells_call h
  subst e0; subst e1; subst e2; subst e3; subst e4
  exact ⟨x, hx, rfl⟩
end Go.Proofs.Ytonkenicikjefaa
