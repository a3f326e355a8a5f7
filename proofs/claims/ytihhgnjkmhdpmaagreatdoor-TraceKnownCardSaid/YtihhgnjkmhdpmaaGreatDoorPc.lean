/- Traces, plain: the trace of a text; there and back. No program. -/
import Derived.Test.YtihhgnjkmhdpmaaGreatDoorPb
import Derived.Test.YtihhgnjkmhdpmaaGreatDoorWLm
import Derived.Test.YtihhgnjkmhdpmaaGreatDoorWQr
namespace Go.Proofs.YtihhgnjkmhdpmaaGreatDoor
open W
/-- A string cut at a byte; cur is what stands before it. -/
def cutC (c : UInt8) (cur : List UInt8) : List UInt8 → List (List UInt8)
  | [] => [cur]
  | x :: r => if x = c then cur :: cutC c [] r else cutC c (cur ++ [x]) r
def joinC (c : UInt8) : List (List UInt8) → List UInt8
  | [] => []
  | [x] => x
  | x :: y :: r => x ++ c :: joinC c (y :: r)
theorem cutC_cons (c : UInt8) : ∀ (l cur : List UInt8), ∃ x r, cutC c cur l = x :: r
  | [], cur => ⟨cur, [], rfl⟩
  | x :: r, cur => by
    rw [cutC]; split
    · exact ⟨_, _, rfl⟩
    · exact cutC_cons c r _
theorem joinC_cutC (c : UInt8) : ∀ (l cur : List UInt8), joinC c (cutC c cur l) = cur ++ l
  | [], cur => by simp [cutC, joinC]
  | x :: r, cur => by
    rw [cutC]
    by_cases h : x = c
    · rw [if_pos h]
      obtain ⟨y, t, e⟩ := cutC_cons c r []
      have ih := joinC_cutC c r []
      rw [e] at ih ⊢
      rw [joinC, ih, h]; simp
    · rw [if_neg h, joinC_cutC c r]; simp
theorem cutC_none {c : UInt8} : ∀ {l : List UInt8} (cur : List UInt8), c ∉ l → cutC c cur l = [cur ++ l]
  | [], cur, _ => by simp [cutC]
  | x :: r, cur, h => by
    rw [cutC, if_neg (fun e => h (by rw [e]; simp)), cutC_none _ (fun e => h (List.mem_cons_of_mem _ e))]; simp
theorem cutC_app {c : UInt8} : ∀ {l : List UInt8} (cur r : List UInt8), c ∉ l → cutC c cur (l ++ c :: r) = (cur ++ l) :: cutC c [] r
  | [], cur, r, _ => by simp [cutC]
  | x :: t, cur, r, h => by
    rw [List.cons_append, cutC, if_neg (fun e => h (by rw [e]; simp)), cutC_app _ _ (fun e => h (List.mem_cons_of_mem _ e))]; simp
def loadL : List UInt8 := [108, 111, 97, 100]
def storeL : List UInt8 := [115, 116, 111, 114, 101]
/-- The run of a line, or its error. -/
def lineR (t : List UInt8) : Int × Run :=
  match cutC 32 [] t with
  | [w, p, q] => if (w = loadL ∨ w = storeL) ∧ intE p 0 1000000000 = 0 ∧ intE q 0 1000000000 = 0 then
      (if intV q 0 1000000000 = 0 ∨ 65536 < intV p 0 1000000000 + intV q 0 1000000000 then (7, ⟨0, 0, 0⟩) else (0, ⟨if w = storeL then 2 else 1, intV p 0 1000000000, (intV q 0 1000000000).toNat⟩))
      else (6, ⟨0, 0, 0⟩)
  | _ => (6, ⟨0, 0, 0⟩)
def parL : Nat → Nat → Run → List Run → List (List UInt8) → List Run × Nat × Int
  | _, _, _, rs, [] => (rs, 0, 0)
  | i, m, b, rs, t :: ts =>
    if (lineR t).1 ≠ 0 then ([], i + 1, (lineR t).1)
    else if 8388608 < m + (lineR t).2.n then ([], i + 1, 3)
    else if (lineR t).2.k = b.k ∧ (lineR t).2.a = b.a + b.n then ([], i + 1, 6)
    else parL (i + 1) (m + (lineR t).2.n) (lineR t).2 (rs ++ [(lineR t).2]) ts
/-- What Parse returns: the runs of the trace, the line, the error. -/
def parseP (s : ByteArray) : List Run × Nat × Int := if linE s = 0 then parL 0 0 ⟨0, 0, 0⟩ [] (cutF [] s.data.toList) else ([], 0, linE s)
theorem intE_zero {p : List UInt8} {hi : Int} (h : intE p 0 hi = 0) : intForm p = true ∧ 0 ≤ intVal p ∧ intVal p ≤ hi ∧ intV p 0 hi = intVal p := by
  unfold intE at h
  split at h
  · rename_i h1
    split at h
    · cases h
    · rename_i h2
      have h3 : outR p 0 hi = false := by simpa using h2
      have h4 := h3
      unfold outR at h4
      simp at h4
      exact ⟨h1, by omega, by omega, by unfold intV; rw [h1, h3]; rfl⟩
  · cases h
theorem intE_itoa {a hi : Int} (h0 : 0 ≤ a) (h1 : a ≤ hi) : intE (Lib.itoa a) 0 hi = 0 ∧ intV (Lib.itoa a) 0 hi = a := by
  obtain ⟨f, v⟩ := int_itoa a
  have ho : outR (Lib.itoa a) 0 hi = false := by unfold outR; rw [v]; simp; omega
  exact ⟨by unfold intE; rw [f, ho]; rfl, by unfold intV; rw [f, ho, v]; rfl⟩
theorem lineR_good {t : List UInt8} (h : (lineR t).1 = 0) : (lineR t).2.good ∧ bodyL (lineR t).2 = t := by
  have hj := joinC_cutC 32 t []
  unfold lineR at h ⊢
  split at h
  · rename_i w p q hc
    rw [hc] at hj
    split at h
    · rename_i hw
      obtain ⟨hw, hp, hq⟩ := hw
      obtain ⟨p1, p2, p3, p4⟩ := intE_zero hp
      obtain ⟨q1, q2, q3, q4⟩ := intE_zero hq
      split at h
      · cases h
      · rename_i hn
        rw [if_pos ⟨hw, hp, hq⟩, if_neg hn]
        rw [p4, q4] at hn ⊢
        refine ⟨⟨?_, p2, ?_, ?_⟩, ?_⟩
        · show (if w = storeL then (2 : Int) else 1) = 1 ∨ _ = _
          by_cases e : w = storeL
          · right; rw [if_pos e]
          · left; rw [if_neg e]
        · show 1 ≤ (intVal q).toNat
          omega
        · show intVal p + ((intVal q).toNat : Int) ≤ 65536
          omega
        · unfold bodyL wordL
          simp only
          rw [itoa_int p1, Int.toNat_of_nonneg q2, itoa_int q1]
          simp only [joinC, List.nil_append] at hj
          rw [← hj]
          rcases hw with rfl | rfl
          · simp [loadL, storeL]
          · simp [storeL]
    · cases h
  · cases h
theorem itoa_no {a : Int} (h : 0 ≤ a) {c : UInt8} (hc : digitB c = false) : c ∉ Lib.itoa a := by
  intro hm
  have := natL_digits _ (itoa_nat h).1
  rw [List.all_eq_true] at this
  rw [this c hm] at hc
  cases hc
theorem word_no (k : Int) : (32 : UInt8) ∉ wordL k ∧ (10 : UInt8) ∉ wordL k := by
  unfold wordL; split <;> decide
theorem lineR_body {r : Run} (h : r.good) : lineR (bodyL r) = (0, r) := by
  obtain ⟨hk, ha, hn, hs⟩ := h
  obtain ⟨k, a, n⟩ := r
  simp only at hk ha hn hs
  obtain ⟨p1, p2⟩ := intE_itoa (hi := 1000000000) ha (by omega)
  obtain ⟨q1, q2⟩ := intE_itoa (a := (n : Int)) (hi := 1000000000) (by omega) (by omega)
  have hc : cutC 32 [] (bodyL ⟨k, a, n⟩) = [wordL k, Lib.itoa a, Lib.itoa n] := by
    unfold bodyL
    simp only
    rw [cutC_app _ _ (word_no k).1, cutC_app _ _ (itoa_no ha (by decide)), cutC_none _ (itoa_no (by omega) (by decide))]
    rfl
  unfold lineR
  rw [hc]
  simp only
  rw [if_pos ⟨by rcases hk with rfl | rfl <;> decide, p1, q1⟩, p2, q2, if_neg (by omega)]
  rcases hk with rfl | rfl
  · simp [wordL, storeL]
  · simp [wordL, storeL]
theorem body_no {r : Run} (h : r.good) : (10 : UInt8) ∉ bodyL r := by
  obtain ⟨hk, ha, hn, hs⟩ := h
  unfold bodyL
  simp only [List.mem_append, List.mem_cons, not_or]
  exact ⟨(word_no _).2, by decide, itoa_no ha (by decide), by decide, itoa_no (by omega) (by decide)⟩
theorem cutF_app : ∀ {l : List UInt8} (cur r : List UInt8), (10 : UInt8) ∉ l → cutF cur (l ++ 10 :: r) = (cur ++ l) :: cutF [] r
  | [], cur, r, _ => by simp [cutF]
  | x :: t, cur, r, h => by
    rw [List.cons_append, cutF, if_neg (fun e => h (by rw [e]; simp)), cutF_app _ _ (fun e => h (List.mem_cons_of_mem _ e))]; simp
theorem cutF_text : ∀ {rs : List Run}, (∀ r ∈ rs, r.good) → cutF [] (textL rs) = rs.map bodyL
  | [], _ => rfl
  | r :: t, h => by
    unfold textL
    rw [List.flatMap_cons]
    unfold lineL
    rw [List.append_assoc, List.singleton_append, cutF_app _ _ (body_no (h r (by simp)))]
    have := cutF_text (rs := t) (fun x hx => h x (by simp [hx]))
    unfold textL lineL at this
    rw [this]; simp
theorem flat_cutF : ∀ (l cur : List UInt8), l ≠ [] → l.getD (l.length - 1) 0 = 10 → (cutF cur l).flatMap (· ++ [10]) = cur ++ l
  | [], _, h, _ => absurd rfl h
  | [c], cur, _, h => by
    have : c = 10 := by simpa using h
    rw [cutF, if_pos this, cutF, this]; simp
  | c :: d :: r, cur, _, h => by
    have ih := fun cur => flat_cutF (d :: r) cur (by simp) (by simpa using h)
    rw [cutF]
    by_cases e : c = 10
    · rw [if_pos e, List.flatMap_cons, ih, e]; simp
    · rw [if_neg e, ih]; simp
/-- No run is one that goes on where the one before it ends. -/
def Chain : Run → List Run → Prop
  | _, [] => True
  | b, r :: t => ¬ (r.k = b.k ∧ r.a = b.a + b.n) ∧ Chain r t
theorem Chain.apart : ∀ {b : Run} {rs : List Run}, Chain b rs → (∀ r ∈ rs, 1 ≤ r.n) → Apart rs
  | _, [], _, _ => trivial
  | _, [r], _, h => h r (by simp)
  | _, r :: s :: t, h, hn => ⟨hn r (by simp), h.2.1, Chain.apart (b := r) h.2 (fun x hx => hn x (by simp [hx]))⟩
theorem Apart.chain : ∀ {r : Run} {t : List Run}, Apart (r :: t) → Chain r t
  | _, [], _ => trivial
  | _, _ :: _, h => ⟨h.2.1, Apart.chain h.2.2⟩
def sumN (rs : List Run) : Nat := (rs.flatMap Run.steps).length
theorem sumN_cons (r : Run) (t : List Run) : sumN (r :: t) = r.n + sumN t := by
  unfold sumN; rw [List.flatMap_cons, List.length_append]; unfold Run.steps; rw [stepsF_len]
theorem sumN_snoc (rs : List Run) (r : Run) : sumN (rs ++ [r]) = sumN rs + r.n := by
  unfold sumN; rw [List.flatMap_append, List.length_append, List.flatMap_cons, List.flatMap_nil, List.append_nil]; unfold Run.steps; rw [stepsF_len]
theorem parL_good : ∀ {ts : List Run} {i m : Nat} {b : Run} {rs : List Run}, (∀ r ∈ ts, r.good) → Chain b ts → m + sumN ts ≤ 8388608 → parL i m b rs (ts.map bodyL) = (rs ++ ts, 0, 0)
  | [], _, _, _, _, _, _, _ => by simp [parL]
  | r :: t, i, m, b, rs, hg, hc, hm => by
    rw [sumN_cons] at hm
    rw [List.map_cons, parL, lineR_body (hg r (by simp))]
    simp only
    rw [if_neg (by simp), if_neg (by omega), if_neg hc.1, parL_good (fun x hx => hg x (by simp [hx])) hc.2 (by omega)]
    simp
theorem parL_back : ∀ {ts : List (List UInt8)} {i m : Nat} {b : Run} {rs : List Run}, m ≤ 8388608 → (parL i m b rs ts).2.2 = 0 →
    ∃ us : List Run, parL i m b rs ts = (rs ++ us, 0, 0) ∧ us.map bodyL = ts ∧ (∀ r ∈ us, r.good) ∧ Chain b us ∧ m + sumN us ≤ 8388608
  | [], i, m, b, rs, hm, _ => ⟨[], by simp [parL], rfl, by simp, trivial, by simpa [sumN] using hm⟩
  | t :: ts, i, m, b, rs, hm, h => by
    rw [parL] at h ⊢
    by_cases h1 : (lineR t).1 = 0
    · rw [if_neg (by simp [h1])] at h ⊢
      by_cases h2 : 8388608 < m + (lineR t).2.n
      · rw [if_pos h2] at h; cases h
      · rw [if_neg h2] at h ⊢
        by_cases h3 : (lineR t).2.k = b.k ∧ (lineR t).2.a = b.a + b.n
        · rw [if_pos h3] at h; cases h
        · rw [if_neg h3] at h ⊢
          obtain ⟨us, e1, e2, e3, e4, e5⟩ := parL_back (by omega) h
          obtain ⟨g1, g2⟩ := lineR_good h1
          refine ⟨(lineR t).2 :: us, by rw [e1]; simp, by rw [List.map_cons, g2, e2], ?_, ⟨h3, e4⟩, by rw [sumN_cons]; omega⟩
          intro r hr
          rcases List.mem_cons.1 hr with rfl | hr
          · exact g1
          · exact e3 r hr
    · rw [if_pos h1] at h; exact absurd h h1
/-- With an error there are no runs. -/
theorem parL_err : ∀ {ts : List (List UInt8)} {i m : Nat} {b : Run} {rs : List Run}, (parL i m b rs ts).2.2 ≠ 0 → (parL i m b rs ts).1 = []
  | [], _, _, _, _, h => by exact absurd rfl h
  | t :: ts, i, m, b, rs, h => by
    rw [parL] at h ⊢
    split
    · rfl
    · rename_i h1
      rw [if_neg h1] at h
      split
      · rfl
      · rename_i h2
        rw [if_neg h2] at h
        split
        · rfl
        · rename_i h3
          rw [if_neg h3] at h
          exact parL_err h
theorem parse_err {s : ByteArray} (h : (parseP s).2.2 ≠ 0) : (parseP s).1 = [] := by
  unfold parseP at h ⊢
  split
  · rename_i h1
    rw [if_pos h1] at h
    exact parL_err h
  · rfl
theorem linE_eq (s : ByteArray) : linE s = if 1048576 < s.size then 3 else if s.size = 0 then 0 else if s.data.toList.getD (s.size - 1) 0 ≠ 10 then 6 else if 5000 < (cutF [] s.data.toList).length then 3 else 0 := by
  have h : (cutS s s.size).1.length = (cutF [] s.data.toList).length := by rw [← cutS_all s, List.length_map]
  unfold linE
  rw [h]
/-- Print of Parse is the text. -/
theorem print_parse {s : ByteArray} (h : (parseP s).2.2 = 0) : ∃ l : List Ev, l = (parseP s).1.flatMap Run.steps ∧ (parseP s).2.1 = 0 ∧ (checkP l 65536) = (0, 0) ∧ printE l = 0 ∧ printT l = s.data.toList := by
  unfold parseP at h ⊢
  split at h
  · rename_i h1
    rw [if_pos h1]
    obtain ⟨us, e1, e2, e3, e4, e5⟩ := parL_back (by omega) h
    rw [e1]
    rw [List.nil_append]
    have hap : Apart us := e4.apart (fun r hr => (e3 r hr).2.2.1)
    have hback := runsL_back us hap
    have hck : checkP (us.flatMap Run.steps) 65536 = (0, 0) := check_good (by omega) (by omega) (by have : (us.flatMap Run.steps).length = sumN us := rfl; omega) (fun x hx => by
      obtain ⟨r, hr, hxr⟩ := List.mem_flatMap.1 hx
      exact steps_good (e3 r hr) x hxr)
    rw [linE_eq] at h1
    have hlen : us.length = (cutF [] s.data.toList).length := by rw [← e2, List.length_map]
    have hl5 : us.length ≤ 5000 ∧ textL us = s.data.toList := by
      by_cases hz : s.size = 0
      · have hz2 : s.data.toList = [] := eq_nil_zero s hz
        rw [hz2] at e2 hlen ⊢
        have : us = [] := by simpa [cutF] using e2
        rw [this]; simp [textL]
      · by_cases g1 : 1048576 < s.size
        · rw [if_pos g1] at h1; cases h1
        · rw [if_neg g1, if_neg hz] at h1
          by_cases g2 : s.data.toList.getD (s.size - 1) 0 ≠ 10
          · rw [if_pos g2] at h1; cases h1
          · rw [if_neg g2] at h1
            by_cases g3 : 5000 < (cutF [] s.data.toList).length
            · rw [if_pos g3] at h1; cases h1
            · refine ⟨by omega, ?_⟩
              have hf := flat_cutF s.data.toList [] (fun e => hz (by rw [← length_data, e]; rfl)) (by rw [length_data]; simpa using g2)
              rw [← e2] at hf
              rw [List.nil_append] at hf
              rw [← hf]
              unfold textL lineL
              rw [List.flatMap_map]
    have hE : printE (us.flatMap Run.steps) = 0 := by unfold printE; rw [hck, if_pos rfl, hback, if_neg (by omega)]
    exact ⟨_, rfl, rfl, hck, hE, by unfold printT; rw [if_pos hE, hback]; exact hl5.2⟩
  · rename_i h1
    exact absurd h h1
theorem itoa_short {a : Int} (h0 : 0 ≤ a) (h1 : a < 100000) : (Lib.itoa a).length ≤ 5 := by
  obtain ⟨n, rfl⟩ := Int.eq_ofNat_of_zero_le h0
  have h2 := (itoa_nat h0).1
  have h3 := (itoa_nat h0).2
  have hd := natL_digits _ h2
  match hl : Lib.itoa (n : Int), h2, h3, hd with
  | [], _, _, _ => simp
  | [_], _, _, _ => simp
  | [_, _], _, _, _ => simp
  | [_, _, _], _, _, _ => simp
  | [_, _, _, _], _, _, _ => simp
  | [_, _, _, _, _], _, _, _ => simp
  | c0 :: c1 :: c2 :: c3 :: c4 :: c5 :: r, h2, h3, hd =>
    exfalso
    have hc : ¬ c0 = 48 := by
      intro e
      unfold natL at h2
      simp [e] at h2
    simp only [List.all_cons, Bool.and_eq_true] at hd
    have d0 := (digitB_iff c0).1 hd.1
    have : 1 ≤ c0.toNat - 48 := by
      have : c0.toNat ≠ 48 := fun e => hc (by rw [← UInt8.toNat_inj]; exact e)
      omega
    have hm := natFrom_le r (10 * (10 * (10 * (10 * (10 * (10 * 0 + (c0.toNat - 48)) + (c1.toNat - 48)) + (c2.toNat - 48)) + (c3.toNat - 48)) + (c4.toNat - 48)) + (c5.toNat - 48))
    rw [natFrom_cons, natFrom_cons, natFrom_cons, natFrom_cons, natFrom_cons, natFrom_cons] at h3
    rw [Int.toNat_natCast] at h3
    omega
theorem line_len {r : Run} (h : r.good) : (lineL r).length ≤ 20 := by
  obtain ⟨hk, ha, hn, hs⟩ := h
  have h1 := itoa_short (a := r.a) ha (by omega)
  have h2 := itoa_short (a := (r.n : Int)) (by omega) (by omega)
  have h3 : (wordL r.k).length ≤ 5 := by unfold wordL; split <;> decide
  unfold lineL bodyL
  simp only [List.length_append, List.length_cons, List.length_nil]
  omega
theorem text_len : ∀ {rs : List Run}, (∀ r ∈ rs, r.good) → (textL rs).length ≤ 20 * rs.length
  | [], _ => Nat.le_refl _
  | r :: t, h => by
    have h1 := line_len (h r (by simp))
    have h2 := text_len (rs := t) (fun x hx => h x (by simp [hx]))
    unfold textL at h2 ⊢
    rw [List.flatMap_cons, List.length_append, List.length_cons]; omega
theorem text_last : ∀ {rs : List Run}, rs ≠ [] → (textL rs).getD ((textL rs).length - 1) 0 = 10
  | [], h => absurd rfl h
  | [r], _ => by
    unfold textL lineL
    simp
  | r :: s :: t, _ => by
    have ih := text_last (rs := s :: t) (by simp)
    have e : textL (r :: s :: t) = lineL r ++ textL (s :: t) := by unfold textL; rw [List.flatMap_cons]
    have hp : 0 < (textL (s :: t)).length := by unfold textL lineL; simp [List.flatMap_cons]; omega
    rw [e, List.length_append, List.getD_eq_getElem?_getD, List.getElem?_append_right (by omega), ← List.getD_eq_getElem?_getD]
    rw [show (lineL r).length + (textL (s :: t)).length - 1 - (lineL r).length = (textL (s :: t)).length - 1 by omega]
    exact ih
/-- Parse of Print is the trace. -/
theorem parse_print {l : List Ev} (h : printE l = 0) : parseP ⟨(printT l).toArray⟩ = (runsL l, 0, 0) := by
  obtain ⟨h1, h2, h3⟩ := print_ok h
  obtain ⟨_, c2, c3, _⟩ := check_ok h1
  have hg := runs_good c3
  have hap := runsL_apart l
  have hs := runsL_steps l
  rw [h3]
  have hL : linE ⟨(textL (runsL l)).toArray⟩ = 0 := by
    rw [linE_eq]
    have hd : (⟨(textL (runsL l)).toArray⟩ : ByteArray).data.toList = textL (runsL l) := rfl
    have ht := text_len hg
    rw [hd, size_mk, if_neg (by omega)]
    by_cases hz : (textL (runsL l)).length = 0
    · rw [if_pos hz]
    · rw [if_neg hz, text_last (by intro e; rw [e] at hz; exact hz rfl), cutF_text hg, List.length_map, if_neg (by simp), if_neg (by omega)]
  unfold parseP
  rw [if_pos hL]
  show parL 0 0 ⟨0, 0, 0⟩ [] (cutF [] (textL (runsL l))) = _
  rw [cutF_text hg, parL_good hg ?_ ?_, List.nil_append]
  · cases hr : runsL l with
    | nil => trivial
    | cons r t =>
      rw [hr] at hap hg
      refine ⟨?_, hap.chain⟩
      rintro ⟨e, _⟩
      have := (hg r (by simp)).1
      simp only at e
      omega
  · unfold sumN; rw [hs]; omega
end Go.Proofs.YtihhgnjkmhdpmaaGreatDoor
