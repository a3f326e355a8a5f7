/- Layer 1: Split and Join are inverse, plain. -/
import Derived.Test.YtoapfldmkpobmaaDoorJa
import Derived.Test.YtoapfldmkpobmaaDoorQu
namespace Go.Proofs.YtoapfldmkpobmaaDoor
theorem join_one (x sep : List UInt8) : Lib.join [x] sep = x := by rw [Lib.join_cons]; unfold Lib.joinTail; simp
theorem join_two (x : List UInt8) {r : List (List UInt8)} (sep : List UInt8) (hr : r ≠ []) : Lib.join (x :: r) sep = x ++ (sep ++ Lib.join r sep) := by
  obtain ⟨y, t, rfl⟩ := List.exists_cons_of_ne_nil hr
  rw [Lib.join_cons, Lib.join_cons]
  unfold Lib.joinTail
  simp
theorem jT_one (x : Item) : jT [x] = jS x := by unfold jT; exact join_one _ _
theorem jT_two (x : Item) {r : List Item} (hr : r ≠ []) : jT (x :: r) = jS x ++ 32 :: jT r := by
  unfold jT
  rw [List.map_cons, join_two _ _ (by simpa using hr)]
  rfl
theorem bare32 : bareB 32 = false := by decide
theorem takeW {s r : List UInt8} (hs : s.all bareB = true) (hr : r = [] ∨ ∃ t, r = 32 :: t) : (s ++ r).takeWhile bareB = s := by
  rw [List.takeWhile_append_of_pos (by simpa using hs)]
  rcases hr with rfl | ⟨t, rfl⟩
  · simp
  · simp [bare32]
theorem bare_not (c : UInt8) (h : bareB c = true) : c ≠ 34 := fun e => by rw [e] at h; revert h; decide
/-- A written field at the beginning is read as it was. -/
theorem fItem (x : Item) (hx : x.q = true ∨ bareAll x.s = true) {r : List UInt8} (hr : r = [] ∨ ∃ t, r = 32 :: t) :
    fLen (jS x ++ r) = (jS x).length ∧ fStr (jS x ++ r) = x.s ∧ fQuo (jS x ++ r) = x.q ∧ fBad (jS x ++ r) = false := by
  have key : fLen (jS x ++ r) = (jS x).length ∧ fStr (jS x ++ r) = x.s ∧ fQuo (jS x ++ r) = x.q ∧ 0 < (jS x).length := by
    by_cases hq : x.q = true
    · have e : jS x = quoteL x.s := by unfold jS; rw [if_pos hq]
      rw [e, hq]
      have h := qL_quote x.s r
      have hh : (quoteL x.s ++ r).head? = some 34 := by unfold quoteL; simp
      unfold fLen fStr fQuo qN qT
      rw [hh, h]
      simp [quoteL]
    · have hq' : x.q = false := by simpa using hq
      have hb : bareAll x.s = true := by rcases hx with h | h; exact absurd h hq; exact h
      unfold bareAll at hb
      rw [Bool.and_eq_true, decide_eq_true_eq] at hb
      have e : jS x = x.s := by unfold jS; rw [if_neg hq]
      rw [e, hq']
      have hw := takeW hb.1 hr
      have hh : ¬ (x.s ++ r).head? = some 34 := by
        cases hs : x.s with
        | nil => rw [hs] at hb; simp at hb
        | cons c t =>
          rw [hs, List.all_cons, Bool.and_eq_true] at hb
          have := bare_not c hb.1.1
          simpa using this
      unfold fLen fStr fQuo bareN
      rw [if_neg hh, if_neg hh, hw, decide_eq_false hh]
      exact ⟨rfl, List.take_left, rfl, hb.2⟩
  obtain ⟨k1, k2, k3, k4⟩ := key
  refine ⟨k1, k2, k3, ?_⟩
  unfold fBad
  rw [k1, decide_eq_false (by omega)]
  rcases hr with rfl | ⟨t, rfl⟩
  · simp
  · simp
/-- What Join writes, Split reads. -/
theorem seq_join : ∀ (xs : List Item), xs ≠ [] → (∀ x ∈ xs, x.q = true ∨ bareAll x.s = true) → ∀ f, (jT xs).length < f → fSeq f (jT xs) = xs.map fun x => ⟨x.s, x.q, true⟩
  | [], h, _, _, _ => absurd rfl h
  | [x], _, hx, f + 1, _ => by
    obtain ⟨k1, k2, k3, k4⟩ := fItem x (hx x (by simp)) (r := []) (.inl rfl)
    rw [List.append_nil] at k1 k2 k3 k4
    rw [jT_one]
    unfold fSeq
    rw [k4, if_neg (by decide), k1, if_pos rfl, k2, k3]
    rfl
  | x :: y :: r, _, hx, f + 1, hf => by
    rw [jT_two x (by simp)] at hf ⊢
    obtain ⟨k1, k2, k3, k4⟩ := fItem x (hx x (by simp)) (r := 32 :: jT (y :: r)) (.inr ⟨_, rfl⟩)
    have ih := seq_join (y :: r) (by simp) (fun z hz => hx z (by simp only [List.mem_cons] at hz ⊢; exact .inr hz)) f (by rw [List.length_append, List.length_cons] at hf; omega)
    have hd : (jS x ++ 32 :: jT (y :: r)).drop ((jS x).length + 1) = jT (y :: r) := by
      rw [← List.drop_drop, List.drop_left]; rfl
    unfold fSeq
    rw [k4, if_neg (by decide), k1, if_neg (by rw [List.length_append, List.length_cons]; omega), k2, k3, hd, ih]
    rfl
  | [_], _, _, 0, h => by omega
  | _ :: _ :: _, _, _, 0, h => by omega
/-- A field that was read is written as it was. -/
theorem jS_read {l : List UInt8} (h : fBad l = false) : jS ⟨fStr l, fQuo l, true⟩ = l.take (fLen l) ∧ (fQuo l = true ∨ bareAll (fStr l) = true) := by
  have hp : fLen l ≠ 0 := by
    unfold fBad at h
    rw [Bool.or_eq_false_iff] at h
    simpa using h.1
  by_cases hh : l.head? = some 34
  · have hq : fQuo l = true := by unfold fQuo; exact decide_eq_true hh
    unfold fLen at hp ⊢
    rw [if_pos hh] at hp ⊢
    refine ⟨?_, .inl hq⟩
    unfold jS fStr
    rw [hq, if_pos rfl, if_pos hh]
    cases hc : qL l with
    | none => unfold qN at hp; rw [hc] at hp; exact absurd rfl hp
    | some p =>
      obtain ⟨t, n⟩ := p
      obtain ⟨r, e1, e2⟩ := qL_back hc
      have ht : qT l = t := by unfold qT; rw [hc]
      have hn : qN l = n := by unfold qN; rw [hc]
      rw [ht, hn, e2]
      conv => rhs; rw [e1]
      exact List.take_left.symm
  · have hq : fQuo l = false := by unfold fQuo; exact decide_eq_false hh
    unfold fLen at hp ⊢
    rw [if_neg hh] at hp ⊢
    unfold jS fStr
    rw [hq, if_neg (show ¬ (false = true) by decide), if_neg hh]
    refine ⟨rfl, .inr ?_⟩
    unfold bareAll bareN at *
    have hpre : l.take (l.takeWhile bareB).length = l.takeWhile bareB := (List.prefix_iff_eq_take.1 (List.takeWhile_prefix bareB)).symm
    rw [hpre, List.all_takeWhile]
    simp only [Bool.true_and, decide_eq_true_eq]
    omega
/-- What Split reads, Join writes. -/
theorem join_seq : ∀ (f : Nat) (l : List UInt8), l.length < f → (fSeq f l).all (·.ok) = true → jT (fSeq f l) = l ∧ (∀ x ∈ fSeq f l, x.q = true ∨ bareAll x.s = true) ∧ fSeq f l ≠ []
  | 0, _, h, _ => by omega
  | f + 1, l, hf, hok => by
    unfold fSeq at hok ⊢
    by_cases hb : fBad l = true
    · rw [if_pos hb] at hok; simp at hok
    · have hb' : fBad l = false := by simpa using hb
      obtain ⟨j1, j2⟩ := jS_read hb'
      rw [if_neg hb] at hok ⊢
      by_cases he : fLen l = l.length
      · rw [if_pos he] at hok ⊢
        refine ⟨by rw [jT_one, j1, he, List.take_length], ?_, by simp⟩
        intro x hx; simp at hx; rw [hx]; exact j2
      · rw [if_neg he] at hok ⊢
        have hle := fLen_le l
        have hlt : fLen l < l.length := by omega
        rw [List.all_cons, Bool.and_eq_true] at hok
        obtain ⟨i1, i2, i3⟩ := join_seq f (l.drop (fLen l + 1)) (by rw [List.length_drop]; omega) hok.2
        have h32 : l.getD (fLen l) 0 = 32 := by
          unfold fBad at hb'
          rw [Bool.or_eq_false_iff, decide_eq_true hlt] at hb'
          simpa using hb'.2
        refine ⟨?_, ?_, by simp⟩
        · rw [jT_two _ i3, j1, i1]
          have : l.drop (fLen l) = 32 :: l.drop (fLen l + 1) := by
            rw [List.drop_eq_getElem_cons hlt]
            rw [List.getD_eq_getElem?_getD, List.getElem?_eq_getElem hlt] at h32
            simp at h32; rw [h32]
          rw [← this, List.take_append_drop]
        · intro x hx
          rcases List.mem_cons.1 hx with rfl | hx
          · exact j2
          · exact i2 x hx
end Go.Proofs.YtoapfldmkpobmaaDoor
