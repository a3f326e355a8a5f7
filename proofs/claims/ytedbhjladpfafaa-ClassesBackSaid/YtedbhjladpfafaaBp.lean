/- Layer 3: what is printed is read, plain. -/
import Derived.Test.YtedbhjladpfafaaV
namespace Go.Proofs.Ytedbhjladpfafaa
/-- The bytes xs lie in l from k on. -/
def Here (l : List UInt8) (k : Nat) (xs : List UInt8) : Prop := ∀ j x, xs[j]? = some x → l[k + j]? = some x
theorem Here.left {l : List UInt8} {k : Nat} {xs ys : List UInt8} (h : Here l k (xs ++ ys)) : Here l k xs := fun j x hj =>
  h j x (by rw [List.getElem?_append_left (List.getElem?_eq_some_iff.1 hj).1]; exact hj)
theorem Here.right {l : List UInt8} {k : Nat} {xs ys : List UInt8} (h : Here l k (xs ++ ys)) : Here l (k + xs.length) ys := fun j x hj => by
  have := h (xs.length + j) x (by rw [List.getElem?_append_right (by omega), Nat.add_sub_cancel_left]; exact hj)
  rwa [← Nat.add_assoc] at this
theorem Here.all (pre xs ys : List UInt8) : Here (pre ++ xs ++ ys) pre.length xs := fun j x hj => by
  rw [List.append_assoc, List.getElem?_append_right (by omega), Nat.add_sub_cancel_left, List.getElem?_append_left (List.getElem?_eq_some_iff.1 hj).1]; exact hj
theorem Here.at0 {l : List UInt8} {k : Nat} {x : UInt8} {xs : List UInt8} (h : Here l k (x :: xs)) : l[k]? = some x := h 0 x rfl
theorem Here.tail {l : List UInt8} {k : Nat} {x : UInt8} {xs : List UInt8} (h : Here l k (x :: xs)) : Here l (k + 1) xs := fun j y hj => by
  have := h (j + 1) y hj
  rwa [show k + (j + 1) = k + 1 + j by omega] at this
theorem hexV_at : ∀ k : Fin 16, hexV (hexAt k.val) = (k.val : Int) := by decide +kernel
theorem mark_plain {c : Nat} (h : markB c = true) : plainB c = true ∧ c ≠ 120 := by
  unfold markB at h; unfold plainB
  simp only [Bool.or_eq_true, beq_iff_eq] at h
  simp; omega
theorem nat_of {c : Nat} (h : c < 256) : (UInt8.ofNat c).toNat = c := by simp; omega
theorem ofNat_ne {c d : Nat} (hc : c < 256) (hd : d < 256) (h : c ≠ d) : UInt8.ofNat c ≠ UInt8.ofNat d := fun e => h (by
  have := congrArg UInt8.toNat e; rwa [nat_of hc, nat_of hd] at this)
/-- A byte that is written is read. -/
theorem one_text {l : List UInt8} {k c : Nat} (hc : c < 256) (h : Here l k (textB c)) : oneB l k = (c, k + (textB c).length, true) := by
  unfold textB at h ⊢
  by_cases hm : markB c = true
  · rw [if_pos hm] at h ⊢
    obtain ⟨hp, hx⟩ := mark_plain hm
    have h0 := h.at0
    have h1 := h.tail.at0
    have hs : skipB l k 92 = true := by unfold skipB; rw [h0]; rfl
    unfold oneB skipN
    rw [hs, if_pos rfl, h1]
    simp only [nat_of hc, hm, hp]
    rw [if_neg (by simp; exact ofNat_ne hc (by decide) hx)]
    rfl
  · rw [if_neg hm] at h ⊢
    by_cases hp : plainB c = true
    · rw [if_pos hp] at h ⊢
      have h0 := h.at0
      have h92 : c ≠ 92 := fun e => hm (by rw [e]; decide)
      have hs : skipB l k 92 = false := by
        unfold skipB; rw [h0]; simp; exact ofNat_ne hc (by decide) h92
      unfold oneB skipN
      rw [hs, if_neg (by simp), h0]
      simp only [nat_of hc, hp, Bool.not_eq_true _ ▸ hm]
      rfl
    · rw [if_neg hp] at h ⊢
      have h0 := h.at0
      have h1 := h.tail.at0
      have h2 := h.tail.tail.at0
      have h3 := h.tail.tail.tail.at0
      have hs : skipB l k 92 = true := by unfold skipB; rw [h0]; rfl
      have e1 := hexV_at ⟨c / 16, by omega⟩
      have e2 := hexV_at ⟨c % 16, by omega⟩
      simp only at e1 e2
      unfold oneB skipN
      rw [hs, if_pos rfl, h1]
      simp only
      rw [if_pos (by simp)]
      unfold hexB
      rw [h2]
      simp only
      rw [if_neg (by rw [e1]; omega), h3]
      simp only
      rw [if_neg (by rw [e2]; omega), e1, e2]
      rw [show (16 * ((c / 16 : Nat) : Int) + ((c % 16 : Nat) : Int)).toNat = c by omega]
      rfl
/-- What a written byte begins with. -/
theorem text_head {l : List UInt8} {k c : Nat} (hc : c < 256) (h : Here l k (textB c)) {b : UInt8} (hb : b = 45 ∨ b = 93 ∨ b = 94) : skipB l k b = false := by
  unfold textB at h
  unfold skipB
  by_cases hm : markB c = true
  · rw [if_pos hm] at h
    rw [h.at0]
    rcases hb with rfl | rfl | rfl <;> decide
  · rw [if_neg hm] at h
    by_cases hp : plainB c = true
    · rw [if_pos hp] at h
      rw [h.at0]
      simp only [beq_eq_false_iff_ne, ne_eq, Option.some.injEq]
      rcases hb with rfl | rfl | rfl
      · exact ofNat_ne (d := 45) hc (by decide) (fun e => hm (by rw [e]; decide))
      · exact ofNat_ne (d := 93) hc (by decide) (fun e => hm (by rw [e]; decide))
      · exact ofNat_ne (d := 94) hc (by decide) (fun e => hm (by rw [e]; decide))
    · rw [if_neg hp] at h
      rw [h.at0]
      rcases hb with rfl | rfl | rfl <;> decide
theorem text_pos (c : Nat) : 0 < (textB c).length := by unfold textB; split <;> (try split) <;> simp
/-- One part: a single byte, where no dash is behind it; a range. -/
theorem part_one {l : List UInt8} {k c : Nat} (hc : c < 256) (h : Here l k (textB c)) (hn : skipB l (k + (textB c).length) 45 = false) : partB l k = (ofL [c], k + (textB c).length, true) := by
  unfold partB
  rw [one_text hc h]
  simp only [if_true, hn]
  rfl
theorem part_two {l : List UInt8} {k lo hi : Nat} (hlh : lo ≤ hi) (hc : hi < 256) (h : Here l k (textB lo ++ ([45] ++ textB hi))) : partB l k = (rngP lo hi, k + (textB lo ++ ([45] ++ textB hi)).length, true) := by
  have h1 := h.left
  have h2 := h.right
  have h3 := h2.tail
  have hs : skipB l (k + (textB lo).length) 45 = true := by unfold skipB; rw [h2.at0]; rfl
  unfold partB
  rw [one_text (by omega) h1]
  simp only [if_true, hs, skipN]
  rw [one_text hc h3]
  simp only [if_true]
  rw [if_neg (by omega)]
  simp [List.length_append]; omega
/-- The set of the runs. -/
def inR (rs : List (Nat × Nat)) : Nat → Bool := fun i => rs.any fun r => decide (r.1 ≤ i) && decide (i ≤ r.2)
theorem loop_end {l : List UInt8} {k f : Nat} {o : Bool} {p : Nat → Bool} (h : Here l k [93]) : loopB l o (f + 1) p k = (if o then (fun i => !p i) else p, k + 1, 0) := by
  have hs : skipB l k 93 = true := by unfold skipB; rw [h.at0]; rfl
  unfold loopB
  rw [if_pos hs]
theorem loop_part {l : List UInt8} {k f k' : Nat} {o : Bool} {p q : Nat → Bool} (hn : skipB l k 93 = false) (hp : partB l k = (q, k', true)) : loopB l o (f + 1) p k = loopB l o f (fun i => p i || q i) k' := by
  rw [loopB, if_neg (by rw [hn]; simp), hp]
  rfl
theorem items_head {l : List UInt8} {k : Nat} {rs : List (Nat × Nat)} (hok : ∀ r ∈ rs, r.1 ≤ r.2 ∧ r.2 < 256) (h : Here l k (itemsB rs ++ [93])) : skipB l k 45 = false ∧ skipB l k 94 = false := by
  match rs with
  | [] =>
    have h0 : l[k]? = some 93 := Here.at0 (xs := []) h
    unfold skipB; rw [h0]; decide
  | r :: rs =>
    have h1 : Here l k (textB r.1) := by
      have : itemsB (r :: rs) ++ [93] = textB r.1 ++ ((if r.1 = r.2 then [] else (if 1 < r.2 - r.1 then [45] else []) ++ textB r.2) ++ itemsB rs ++ [93]) := by
        unfold itemsB; rw [List.flatMap_cons]; unfold runT; simp
      rw [this] at h; exact h.left
    have := hok r (by simp)
    exact ⟨text_head (by omega) h1 (.inl rfl), text_head (by omega) h1 (.inr (.inr rfl))⟩
theorem rng_in {lo hi : Nat} (hlh : lo ≤ hi) (hc : hi < 256) (i : Nat) : rngP lo hi i = (decide (lo ≤ i) && decide (i ≤ hi)) := by
  unfold rngP rngOk
  rw [Bool.eq_iff_iff]; simp; omega
theorem one_in (c i : Nat) : ofL [c] i = (decide (c ≤ i) && decide (i ≤ c)) := by
  unfold ofL; rw [Bool.eq_iff_iff]; simp; omega
/-- The items of runs are read: their set. -/
theorem loop_items {l : List UInt8} {o : Bool} : ∀ (rs : List (Nat × Nat)) (f k : Nat) (p : Nat → Bool), (∀ r ∈ rs, r.1 ≤ r.2 ∧ r.2 < 256) → Here l k (itemsB rs ++ [93]) → l.length + 1 ≤ f + k →
    ∃ q : Nat → Bool, (∀ i, q i = (p i || inR rs i)) ∧ loopB l o f p k = (if o then (fun i => !q i) else q, k + (itemsB rs).length + 1, 0)
  | [], f, k, p, _, h, hf => by
    have h0 : Here l k [93] := h
    have hk : k < l.length := (List.getElem?_eq_some_iff.1 h0.at0).1
    obtain ⟨g, rfl⟩ : ∃ g, f = g + 1 := ⟨f - 1, by omega⟩
    exact ⟨p, fun i => by simp [inR], by rw [loop_end h0]; rfl⟩
  | (lo, hi) :: rs, f, k, p, hok, h, hf => by
    obtain ⟨hlh, hc⟩ := hok (lo, hi) (by simp)
    simp only at hlh hc
    have hok2 : ∀ r ∈ rs, r.1 ≤ r.2 ∧ r.2 < 256 := fun r hr => hok r (by simp [hr])
    have hit : itemsB ((lo, hi) :: rs) = runT lo hi ++ itemsB rs := by unfold itemsB; rw [List.flatMap_cons]
    rw [hit, List.append_assoc] at h
    have hr := h.right
    have hrun := h.left
    have hp1 := text_pos lo
    have hp2 := text_pos hi
    have ht : Here l k (textB lo) := by unfold runT at hrun; exact hrun.left
    have hk : k < l.length := by
      obtain ⟨x, hx⟩ : ∃ x, (textB lo)[0]? = some x := ⟨_, List.getElem?_eq_getElem hp1⟩
      have := ht 0 x hx
      exact (List.getElem?_eq_some_iff.1 this).1
    have hn := text_head (by omega) ht (b := 93) (.inr (.inl rfl))
    obtain ⟨g, rfl⟩ : ∃ g, f = g + 1 := ⟨f - 1, by omega⟩
    have hnext := items_head hok2 hr
    by_cases e : lo = hi
    · subst e
      have hl : runT lo lo = textB lo := by simp [runT]
      rw [hl] at hr hnext
      rw [hit, hl]
      rw [loop_part hn (part_one hc ht hnext.1)]
      obtain ⟨q, hq, he⟩ := loop_items rs g (k + (textB lo).length) (fun i => p i || ofL [lo] i) hok2 hr (by omega)
      refine ⟨q, fun i => ?_, ?_⟩
      · rw [hq, one_in]; unfold inR; rw [List.any_cons, Bool.or_assoc]
      · rw [he, List.length_append, Nat.add_assoc k]
    · by_cases e2 : 1 < hi - lo
      · have hl : runT lo hi = textB lo ++ ([45] ++ textB hi) := by unfold runT; rw [if_neg e, if_pos e2]
        rw [hl] at hr hrun
        rw [hit, hl]
        rw [loop_part hn (part_two hlh hc hrun)]
        obtain ⟨q, hq, he⟩ := loop_items rs g _ (fun i => p i || rngP lo hi i) hok2 hr (by simp only [List.length_append]; omega)
        refine ⟨q, fun i => ?_, ?_⟩
        · rw [hq, rng_in hlh hc]; unfold inR; rw [List.any_cons, Bool.or_assoc]
        · rw [he]; simp only [List.length_append]; congr 2; omega
      · obtain rfl : hi = lo + 1 := by omega
        have hl : runT lo (lo + 1) = textB lo ++ textB (lo + 1) := by unfold runT; rw [if_neg e, if_neg e2]; simp
        rw [hl] at hr hrun hnext
        rw [hit, hl]
        have h2 := hrun.right
        have hn2 := text_head hc h2 (b := 93) (.inr (.inl rfl))
        rw [loop_part hn (part_one (by omega) ht (text_head hc h2 (.inl rfl)))]
        have hk2 : k + (textB lo).length < l.length := by
          obtain ⟨x, hx⟩ : ∃ x, (textB (lo + 1))[0]? = some x := ⟨_, List.getElem?_eq_getElem hp2⟩
          have := h2 0 x hx
          exact (List.getElem?_eq_some_iff.1 this).1
        obtain ⟨g, rfl⟩ : ∃ g', g = g' + 1 := ⟨g - 1, by omega⟩
        rw [List.length_append, ← Nat.add_assoc] at hr hnext
        rw [loop_part hn2 (part_one hc h2 hnext.1)]
        obtain ⟨q, hq, he⟩ := loop_items rs g _ (fun i => (p i || ofL [lo] i) || ofL [lo + 1] i) hok2 hr (by omega)
        refine ⟨q, fun i => ?_, ?_⟩
        · have e5 : (decide (lo ≤ i) && decide (i ≤ lo + 1)) = ((decide (lo ≤ i) && decide (i ≤ lo)) || (decide (lo + 1 ≤ i) && decide (i ≤ lo + 1))) := by
            rw [Bool.eq_iff_iff]; simp; omega
          rw [hq, one_in, one_in]; unfold inR; rw [List.any_cons]; simp only [e5, Bool.or_assoc]
        · rw [he]; simp only [List.length_append]; congr 2; omega
theorem inR_runs (p : Nat → Bool) {i : Nat} (hi : i < 256) : inR (runsB p) i = p i := by
  rw [Bool.eq_iff_iff, (runsB_inv p).has i hi]
  unfold inR
  rw [List.any_eq_true]
  simp
/-- Prefix of what is printed, with anything behind it. -/
theorem pref_print (p : Nat → Bool) (ys : List UInt8) : ∃ q, (∀ i, i < 256 → q i = p i) ∧ prefB (printB p ++ ys) = (q, (printB p).length, 0) := by
  unfold printB
  by_cases hm : manyB p = true
  · rw [if_pos hm]
    have h : Here (([91, 94] ++ itemsB (runsB fun i => !p i) ++ [93]) ++ ys) 0 ([91, 94] ++ (itemsB (runsB fun i => !p i) ++ [93])) := by
      have := Here.all [] ([91, 94] ++ itemsB (runsB fun i => !p i) ++ [93]) ys
      simpa using this
    generalize hl : ([91, 94] ++ itemsB (runsB fun i => !p i) ++ [93]) ++ ys = l at *
    have h0 := h.left.at0
    have h1 := h.left.tail.at0
    have s0 : skipB l 0 91 = true := by unfold skipB; rw [h0]; rfl
    have s1 : skipB l 1 94 = true := by unfold skipB; rw [show (1 : Nat) = 0 + 1 from rfl, h1]; rfl
    obtain ⟨q, hq, he⟩ := loop_items (o := true) (runsB fun i => !p i) (l.length + 1) 2 (fun _ => false) (fun r hr => runsB_ok hr) h.right (by omega)
    refine ⟨fun i => !q i, fun i hi => ?_, ?_⟩
    · simp only [hq, inR_runs _ hi]; simp
    · unfold prefB skipN
      rw [s0, s1, if_pos rfl, if_pos rfl, he]
      simp; omega
  · rw [if_neg hm]
    have h : Here (([91] ++ itemsB (runsB p) ++ [93]) ++ ys) 0 ([91] ++ (itemsB (runsB p) ++ [93])) := by
      have := Here.all [] ([91] ++ itemsB (runsB p) ++ [93]) ys
      simpa using this
    generalize hl : ([91] ++ itemsB (runsB p) ++ [93]) ++ ys = l at *
    have h0 := h.left.at0
    have s0 : skipB l 0 91 = true := by unfold skipB; rw [h0]; rfl
    have hr : Here l 1 (itemsB (runsB p) ++ [93]) := h.right
    have s1 : skipB l 1 94 = false := (items_head (fun r hr => runsB_ok hr) hr).2
    obtain ⟨q, hq, he⟩ := loop_items (o := false) (runsB p) (l.length + 1) 1 (fun _ => false) (fun r hr => runsB_ok hr) hr (by omega)
    refine ⟨q, fun i hi => ?_, ?_⟩
    · simp only [hq, inR_runs _ hi]; simp
    · unfold prefB skipN
      rw [s0, s1, if_pos rfl, if_neg (by simp), he]
      simp; omega
theorem parse_print (p : Nat → Bool) : ∃ q, (∀ i, i < 256 → q i = p i) ∧ parseB (printB p) = (q, 0, 0) := by
  obtain ⟨q, hq, he⟩ := pref_print p []
  rw [List.append_nil] at he
  refine ⟨q, hq, ?_⟩
  unfold parseB
  rw [he]
  simp
theorem printB_len (p : Nat → Bool) : (printB p).length ≤ 10000 := by
  unfold printB
  split
  · have h1 := itemsB_len (runsB fun i => !p i)
    have h2 := runsB_len fun i => !p i
    simp; omega
  · have h1 := itemsB_len (runsB p)
    have h2 := runsB_len p
    simp; omega
end Go.Proofs.Ytedbhjladpfafaa
