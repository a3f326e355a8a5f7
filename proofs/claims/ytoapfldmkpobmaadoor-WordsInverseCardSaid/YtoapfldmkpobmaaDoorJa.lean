/- Layer 1: Join of words: the parts. -/
import Derived.Test.YtoapfldmkpobmaaDoorSA
import Derived.Lib.AppendStr
namespace Go.Proofs.YtoapfldmkpobmaaDoor
open Go.RowKit
theorem bareN_all {l : List UInt8} (h : l.all bareB = true) : bareN l = l.length := by
  have := bareN_eq (l := l) (j := l.length) (Nat.le_refl _) (by rw [List.take_length]; exact h) (fun c hc => by simp at hc)
  exact this
theorem bareN_not {l : List UInt8} (h : ¬ l.all bareB = true) : bareN l ≠ l.length := by
  intro e
  apply h
  have hp := List.takeWhile_prefix bareB (l := l)
  have := hp.eq_of_length (by unfold bareN at e; exact e)
  rw [← this]; exact List.all_takeWhile
theorem bareText_any (s : ByteArray) (w : World) (hs : s.size ≤ 100000000000) : Calls Tryd.prog 19 #[.string s] w fun e w' => e = .returned (.bool (bareAll s.data.toList)) ∧ w = w' := by
  have BP := Lib.hid (fun w' => barePrefix_any s w' hs)
  by_cases h0 : s.size = 0
  · have hN := toList_nil s h0
    have HB := Lib.hid (show bareAll s.data.toList = false by rw [eq_nil_zero s h0]; rfl)
    go_enter Tryd.func19, Tryd.ntmps19
    go_wp2_with (go_at_call 33; refine (BP.out _).mono ?_; rintro e w' ⟨rfl, rfl⟩)
    go_ret
    exact ⟨ret_bool HB.out.symm, rfl⟩
  · have hN := ne_nil_pos s (by omega)
    have hE := isEmpty_pos s (by omega)
    obtain ⟨k, hk⟩ : ∃ k, k = bareN s.data.toList := ⟨_, rfl⟩
    rw [← hk] at BP
    by_cases ha : s.data.toList.all bareB = true
    · have he : ((k : Int) == (s.size : Int)) = true := by rw [hk, bareN_all ha, length_data]; simp
      have HB := Lib.hid (show bareAll s.data.toList = true by unfold bareAll; rw [ha, length_data]; simp; omega)
      clear ha hk
      go_enter Tryd.func19, Tryd.ntmps19
      go_wp2_with (go_at_call 33; refine (BP.out _).mono ?_; rintro e w' ⟨rfl, rfl⟩)
      go_ret
      exact ⟨ret_bool HB.out.symm, rfl⟩
    · have he : ((k : Int) == (s.size : Int)) = false := beq_eq_false_iff_ne.2 (fun e => by
        have := bareN_not ha; rw [← hk, length_data] at this; omega)
      have HB := Lib.hid (show bareAll s.data.toList = false by
        have : s.data.toList.all bareB = false := by simpa using ha
        unfold bareAll; rw [this]; rfl)
      clear ha hk
      go_enter Tryd.func19, Tryd.ntmps19
      go_wp2_with (go_at_call 33; refine (BP.out _).mono ?_; rintro e w' ⟨rfl, rfl⟩)
      go_ret
      exact ⟨ret_bool HB.out.symm, rfl⟩
def jS (x : Item) : List UInt8 := if x.q then quoteL x.s else x.s
theorem jS_len (x : Item) : (jS x).length ≤ 4 * x.s.length + 2 := by
  unfold jS; split
  · unfold quoteL; have := escAll_le x.s; simp; omega
  · omega
theorem write_any (x : Item) (w : World) (hw : LW w) (hx : x.s.length ≤ 1000000) : Calls Tryd.prog 20 #[.agg #[.string ⟨x.s.toArray⟩, .bool x.q]] w fun e w' => e = .returned (.string ⟨(jS x).toArray⟩) ∧ Below w.heap.size w w' := by
  obtain ⟨xs, q, ok⟩ := x
  have QC := Lib.hid (fun w' (h : Below w.heap.size w w') => quote_any ⟨xs.toArray⟩ w' (hw.below h) (by rw [size_mk]; exact Nat.le_trans hx (by omega)))
  have hbc : Below w.heap.size w (w.alloc (.cells #[.string ⟨xs.toArray⟩, .bool q] 46)) := (Below.refl _ w).alloc (Nat.le_refl _) _
  cases q
  · go_enter Tryd.func20, Tryd.ntmps20
    go_wp2
    go_ret
    exact ⟨rfl, hbc⟩
  · go_enter Tryd.func20, Tryd.ntmps20
    go_wp2_with (go_at_call 11; refine (QC.out _ hbc).mono ?_; rintro e w2 ⟨rfl, hb2⟩)
    go_ret
    exact ⟨rfl, hbc.trans (hb2.mono (by simp))⟩
def jT (xs : List Item) : List UInt8 := Lib.join (xs.map jS) [32]
theorem join_snoc (l : List (List UInt8)) (x sep : List UInt8) (h : l ≠ []) : Lib.join (l ++ [x]) sep = Lib.join l sep ++ (sep ++ x) := by
  cases l with
  | nil => exact absurd rfl h
  | cons y r =>
    rw [List.cons_append, Lib.join_cons, Lib.join_cons, List.append_assoc]
    congr 1
    unfold Lib.joinTail
    simp
theorem jT_zero (x : Item) : jT [x] = jS x := by unfold jT; exact Lib.join_one _ _
theorem jT_snoc (xs : List Item) (x : Item) (h : xs ≠ []) : jT (xs ++ [x]) = jT xs ++ (32 :: jS x) := by
  unfold jT
  rw [List.map_append]
  exact join_snoc _ _ _ (by simpa using h)
def jBad (x : Item) : Bool := !x.q && !bareAll x.s
def joinE (xs : List Item) : Int := if 64 < xs.length then 3 else if longs xs then 3 else if xs.any jBad then 6 else if 8192 < (jT xs).length then 3 else 0
def joinR (xs : List Item) : List UInt8 := if joinE xs = 0 then jT xs else []
def JPost (w : World) (xs : List Item) (e : Ending) (w' : World) : Prop := e = .returned (.tuple #[.string ⟨(joinR xs).toArray⟩, .int .i64 (joinE xs)]) ∧ Below w.heap.size w w'
theorem jPost_bad {w w' : World} {xs : List Item} {c : Int} (h : joinE xs = c) (hc : c ≠ 0) (hb : Below w.heap.size w w') : JPost w xs (.returned (.tuple #[.string ⟨#[]⟩, .int .i64 c])) w' := by
  refine ⟨?_, hb⟩
  have : joinR xs = [] := by unfold joinR; rw [h, if_neg hc]
  rw [this, h]
end Go.Proofs.YtoapfldmkpobmaaDoor
