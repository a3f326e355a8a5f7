/- Layer 1: Join of words: the parts. -/
import Derived.Test.YtoapfldmkpobmaaGreatDoorSA
import Derived.Lib.AppendStr
namespace Go.Proofs.YtoapfldmkpobmaaGreatDoor
open Go.RowKit
theorem bareN_all {l : List UInt8} (h : l.all bareB = true) : bareN l = l.length := by
  have := bareN_eq (l := l) (j := l.length) (Nat.le_refl _) (by rw [List.take_length]; exact h) (fun c hc => by simp at hc)
  exact this
theorem bareN_not {l : List UInt8} (h : ¬ l.all bareB = true) : bareN l ≠ l.length := by
  intro e
  apply h
  have hp := List.takeWhile_prefix bareB (l := l)
  have := hp.eq_of_length (by unfold bareN at e; exact e)
  rw [← this]; exact List.all_takeWhile
def jS (x : Item) : List UInt8 := if x.q then quoteL x.s else x.s
theorem jS_len (x : Item) : (jS x).length ≤ 4 * x.s.length + 2 := by
  unfold jS; split
  · unfold quoteL; have := escAll_le x.s; simp; omega
  · omega
def jT (xs : List Item) : List UInt8 := Lib.join (xs.map jS) [32]
theorem join_snoc (l : List (List UInt8)) (x sep : List UInt8) (h : l ≠ []) : Lib.join (l ++ [x]) sep = Lib.join l sep ++ (sep ++ x) := by
  cases l with
  | nil => exact absurd rfl h
  | cons y r =>
    rw [List.cons_append, Lib.join_cons, Lib.join_cons, List.append_assoc]
    congr 1
    unfold Lib.joinTail
    simp
theorem jT_zero (x : Item) : jT [x] = jS x := by unfold jT; exact Lib.join_one _ _
theorem jT_snoc (xs : List Item) (x : Item) (h : xs ≠ []) : jT (xs ++ [x]) = jT xs ++ (32 :: jS x) := by
  unfold jT
  rw [List.map_append]
  exact join_snoc _ _ _ (by simpa using h)
def jBad (x : Item) : Bool := !x.q && !bareAll x.s
def joinE (xs : List Item) : Int := if 64 < xs.length then 3 else if longs xs then 3 else if xs.any jBad then 6 else if 8192 < (jT xs).length then 3 else 0
def joinR (xs : List Item) : List UInt8 := if joinE xs = 0 then jT xs else []
def JPost (w : World) (xs : List Item) (e : Ending) (w' : World) : Prop := e = .returned (.tuple #[.string ⟨(joinR xs).toArray⟩, .int .i64 (joinE xs)]) ∧ Below w.heap.size w w'
theorem jPost_bad {w w' : World} {xs : List Item} {c : Int} (h : joinE xs = c) (hc : c ≠ 0) (hb : Below w.heap.size w w') : JPost w xs (.returned (.tuple #[.string ⟨#[]⟩, .int .i64 c])) w' := by
  refine ⟨?_, hb⟩
  have : joinR xs = [] := by unfold joinR; rw [h, if_neg hc]
  rw [this, h]
end Go.Proofs.YtoapfldmkpobmaaGreatDoor
