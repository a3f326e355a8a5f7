/- Layer 2: Of, Ones, Count of the reference. -/
import Derived.Test.YtnegnmjjibhldaaDoorK
namespace Go.Proofs.YtnegnmjjibhldaaDoor
open Go.RowKit
def i64v (z : Int) : Value := .int .i64 z
theorem i64_info : (Tryd.prog.info? 3).map (fun i => (i.zero, i.size, i.bytes)) = some (some (.int .i64 0), 1, 8) := by kernel_rfl
/-- A row of ints that the call made, from block B on. -/
def OwnI (W : World) (B : Nat) (v : Value) (zs : List Int) : Prop := W.ownsRow B 3 1 v zs.length (zs.map i64v)
theorem OwnI.row {W : World} {B : Nat} {v : Value} {zs : List Int} (h : OwnI W B v zs) : IRow W v zs := by
  rcases h.2 with ⟨rfl, h0⟩ | ⟨g, cap, cur, rfl, _, hg, hn, _, hs, ht⟩
  · refine ⟨none, 0, by rw [h0], by omega, fun i x hi => ?_⟩
    have := (List.getElem?_eq_some_iff.1 hi).1; omega
  · refine ⟨_, cap, rfl, hn, fun i x hi => ⟨g, 0, rfl, ?_⟩⟩
    have hlt := (List.getElem?_eq_some_iff.1 hi).1
    rw [Nat.zero_add, World.ownsRow.cellAt h i (by omega), List.getElem?_map, hi]
    rfl
theorem wpList_appI {ops : Array Oper} {rest : List Oper} {o : Oper} {a : Act} {Q : Exit → Act → World → Prop} {w : World} (hgd : o.guard = none) (s x : Operand)
    (ho : o.op = .call { callee := .builtin .append, args := #[s, x], argTypes := #[33, 33] }) (B : Nat) (v : Value) (zs : List Int) (z : Int)
    (hs : a.eval s = v) (hx : a.eval x = .slice (some ⟨w.heap.size, 0, none⟩) 1 1) (hown : OwnI w B v zs) (hB : B ≤ w.heap.size) (hl : zs.length ≤ 1000000)
    (h : ∀ v' w1, OwnI w1 B v' (zs ++ [z]) → Below B w w1 → wpList Tryd.prog ops Q rest (a.put o.dst v') w1) :
    wpList Tryd.prog ops Q (o :: rest) a (w.alloc (.cells #[.int .i64 z] 3)) := by
  obtain ⟨i0, hi, hz0, hz1, hz2⟩ := info_parts i64_info
  refine wpList_append_own _ hgd s x 33 ho B 3 i0 (.int .i64 0) 1 8 Tryd.underlying33 hi hz0 hz1 hz2 rfl (by decide) v zs.length (zs.map i64v) hs (World.ownsRow.alloc hown _) ⟨w.heap.size, 0, none⟩ 1 1 [.int .i64 z] hx rfl (cell_one_new _ _ _) (by simp [Value.oneCell']) (by simp only [maxLen]; omega) (by omega) (by simp; omega) ?_
  intro v' w1 hown' hg _
  refine h v' w1 ?_ (((Below.refl B w).alloc hB _).grown hg (by simp; omega) (fun k e => (World.ownsRow.lt hown k e).1))
  unfold OwnI
  rw [List.length_append, List.map_append]
  exact hown'
def onesZ (xs : List Nat) (k : Nat) : List Int := ((List.range k).filter (rbit xs)).map fun i : Nat => (i : Int)
theorem onesZ_succ (xs : List Nat) (k : Nat) : onesZ xs (k + 1) = onesZ xs k ++ if rbit xs k then [(k : Int)] else [] := by
  unfold onesZ
  rw [onesUpto_succ, List.map_append]
  cases rbit xs k <;> simp
theorem onesZ_le (xs : List Nat) (k : Nat) : (onesZ xs k).length ≤ k := by
  unfold onesZ; rw [List.length_map]
  have := List.length_filter_le (rbit xs) (List.range k)
  simpa using this
def onesR (xs : List Nat) : List Int := if chk xs.length = 0 then onesZ xs (64 * xs.length) else []
/-- A list of ints and an error are returned. -/
def IntPost (w : World) (zs : List Int) (E : Int) (e : Ending) (w' : World) : Prop := ∃ v, e = .returned (.tuple #[v, .int .i64 E]) ∧ IRow w' v zs ∧ Below w.heap.size w w'
theorem IRow.none (w : World) : IRow w (.slice none 0 0) [] := ⟨_, 0, rfl, Nat.zero_le _, fun i x h => by simp at h⟩
def NumPost (w : World) (n : Nat) (E : Int) (e : Ending) (w' : World) : Prop := e = .returned (.tuple #[.int .i64 (n : Int), .int .i64 E]) ∧ Below w.heap.size w w'
end Go.Proofs.YtnegnmjjibhldaaDoor
