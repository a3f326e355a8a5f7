/- Layer 1: List and ParseList are inverse to each other, plain. -/
import Derived.Test.YtoapfldmkpobmaaGreatDoorQr
import Derived.Test.YtoapfldmkpobmaaGreatDoorPh
import Derived.Test.YtoapfldmkpobmaaGreatDoorY
namespace Go.Proofs.YtoapfldmkpobmaaGreatDoor
/-- Runs, each of which begins two at least behind the end of the one before it. -/
def Ch : Option Int → List (Int × Int) → Prop
  | _, [] => True
  | p, q :: r => (0 ≤ q.1 ∧ q.1 ≤ q.2 ∧ q.2 ≤ 1000000000) ∧ (∀ l, p = some l → l + 1 < q.1) ∧ Ch (some q.2) r
def wrP (q : Int × Int) : List UInt8 := wrS q.1 q.2
def upP (q : Int × Int) : List Int := upL q.1 (q.2 - q.1 + 1).toNat
theorem upL_cons (a : Int) (n : Nat) : upL a (n + 1) = a :: upL (a + 1) n := by
  unfold upL
  rw [List.range_succ_eq_map, List.map_cons, List.map_map]
  congr 1
  · simp
  · apply List.map_congr_left; intro i _; simp only [Function.comp_apply, Nat.succ_eq_add_one, Int.natCast_add]; omega
theorem upP_cons {q : Int × Int} (h : q.1 ≤ q.2) : upP q = q.1 :: upL (q.1 + 1) (q.2 - q.1).toNat := by
  unfold upP
  rw [show (q.2 - q.1 + 1).toNat = (q.2 - q.1).toNat + 1 by omega, upL_cons]
theorem runTail_up : ∀ (n : Nat) (x : Int) (rest : List Int), (∀ h, rest.head? = some h → h ≠ x + (n : Int) + 1) → runTail x (upL (x + 1) n ++ rest) = n
  | 0, x, rest, h => by
    show runTail x rest = 0
    cases rest with
    | nil => rfl
    | cons y r => unfold runTail; rw [if_neg (by have := h y rfl; simpa using this)]
  | n + 1, x, rest, h => by
    rw [upL_cons, List.cons_append]
    unfold runTail
    rw [if_pos rfl, runTail_up n (x + 1) rest (fun z hz => by have := h z hz; rw [Int.natCast_add] at this; omega)]
theorem head_flat {p : Option Int} {r : List (Int × Int)} (h : Ch p r) : ∀ z, (r.flatMap upP).head? = some z → ∃ q t, r = q :: t ∧ z = q.1 := by
  intro z hz
  cases r with
  | nil => simp at hz
  | cons q t =>
    rw [List.flatMap_cons, upP_cons h.1.2.1] at hz
    simp at hz
    exact ⟨q, t, rfl, hz.symm⟩
theorem getD_up (a : Int) : ∀ (n : Nat) (rest : List Int), (upL a (n + 1) ++ rest).getD n 0 = a + (n : Int) := by
  intro n rest
  rw [List.getD_eq_getElem?_getD, List.getElem?_append_left (by rw [upL_len]; omega), upL_succ, List.getElem?_append_right (by rw [upL_len]; omega), upL_len, Nat.sub_self]
  rfl
theorem runs_pairs : ∀ (ps : List (Int × Int)) (p : Option Int), Ch p ps → runsG (ps.flatMap upP) = ps.map wrP
  | [], _, _ => rfl
  | q :: r, p, h => by
    obtain ⟨hq, _, hr⟩ := h
    have ih := runs_pairs r _ hr
    obtain ⟨n, hn⟩ : ∃ n : Nat, q.2 - q.1 = (n : Int) := ⟨(q.2 - q.1).toNat, by omega⟩
    have e1 : (q :: r).flatMap upP = q.1 :: (upL (q.1 + 1) n ++ r.flatMap upP) := by
      rw [List.flatMap_cons, upP_cons hq.2.1, hn]; simp
    have e2 : (q :: r).flatMap upP = upL q.1 (n + 1) ++ r.flatMap upP := by
      rw [e1, upL_cons]; rfl
    have hT : runTail q.1 (upL (q.1 + 1) n ++ r.flatMap upP) = n := runTail_up n q.1 _ fun z hz => by
      obtain ⟨q', t, rfl, rfl⟩ := head_flat hr z hz
      have := hr.2.1 q.2 rfl
      omega
    have hL : runLen (q.1 :: (upL (q.1 + 1) n ++ r.flatMap upP)) = n + 1 := by show runTail q.1 (upL (q.1 + 1) n ++ r.flatMap upP) + 1 = n + 1; rw [hT]
    rw [e1, runsG_cons, hL, ← e1, e2, Nat.add_sub_cancel, getD_up, List.drop_append_of_le_length (by rw [upL_len]; omega), List.drop_of_length_le (by rw [upL_len]; omega), List.nil_append, ih]
    show wrS q.1 (q.1 + (n : Int)) :: r.map wrP = wrS q.1 q.2 :: r.map wrP
    rw [show q.1 + (n : Int) = q.2 by omega]
theorem pairs_of : ∀ (xs : List Int) (p : Option Int), (∀ z ∈ xs, 0 ≤ z ∧ z ≤ 1000000000) → (∀ i, i + 1 < xs.length → xs.getD i 0 < xs.getD (i + 1) 0) → (∀ l, p = some l → ∀ z, xs.head? = some z → l + 1 < z) → ∃ ps, Ch p ps ∧ ps.flatMap upP = xs
  | [], p, _, _, _ => ⟨[], trivial, rfl⟩
  | x :: r, p, hr, ha, hp => by
    obtain ⟨ps, hc, he⟩ := pairs_of r none (fun z hz => hr z (List.mem_cons_of_mem _ hz)) (fun i hi => by have := ha (i + 1) (by simp; omega); simpa using this) (fun l h => by cases h)
    have hx := hr x List.mem_cons_self
    have hp' : ∀ l, p = some l → l + 1 < x := fun l h => hp l h x rfl
    cases ps with
    | nil =>
      have : r = [] := he.symm
      subst this
      refine ⟨[(x, x)], ⟨⟨hx.1, Int.le_refl _, hx.2⟩, hp', trivial⟩, ?_⟩
      rw [List.flatMap_cons, upP_cons (Int.le_refl _)]
      show x :: upL (x + 1) (x - x).toNat ++ [] = [x]
      rw [Int.sub_self]; rfl
    | cons q t =>
      obtain ⟨hq, _, ht⟩ := hc
      have e1 : r = q.1 :: (upL (q.1 + 1) (q.2 - q.1).toNat ++ t.flatMap upP) := by rw [← he, List.flatMap_cons, upP_cons hq.2.1]; rfl
      have hlt : x < q.1 := by
        have := ha 0 (by rw [e1]; simp)
        rw [e1] at this
        simpa using this
      by_cases h1 : q.1 = x + 1
      · refine ⟨(x, q.2) :: t, ⟨⟨hx.1, by show x ≤ q.2; omega, hq.2.2⟩, hp', ht⟩, ?_⟩
        rw [List.flatMap_cons, upP_cons (by show x ≤ q.2; omega), ← he, List.flatMap_cons]
        show x :: upL (x + 1) (q.2 - x).toNat ++ t.flatMap upP = x :: (upP q ++ t.flatMap upP)
        unfold upP
        rw [h1, show (q.2 - (x + 1) + 1).toNat = (q.2 - x).toNat by omega]; rfl
      · refine ⟨(x, x) :: q :: t, ⟨⟨hx.1, Int.le_refl _, hx.2⟩, hp', hq, fun l h => by cases h; show x + 1 < q.1; omega, ht⟩, ?_⟩
        rw [List.flatMap_cons, upP_cons (Int.le_refl _), he]
        show x :: upL (x + 1) (x - x).toNat ++ r = x :: r
        rw [Int.sub_self]; rfl
/-- The numbers of runs ascend, and are in range. -/
def Asc : Int → List Int → Prop
  | _, [] => True
  | lo, z :: r => lo < z ∧ Asc z r
theorem asc_up : ∀ (n : Nat) (lo a : Int) (rest : List Int), lo < a → Asc (a + (n : Int)) rest → Asc lo (upL a (n + 1) ++ rest)
  | 0, lo, a, rest, h, hr => by
    rw [upL_cons]; exact ⟨h, by show Asc a rest; simpa using hr⟩
  | n + 1, lo, a, rest, h, hr => by
    rw [upL_cons]
    exact ⟨h, asc_up n a (a + 1) rest (by omega) (by rw [show a + 1 + (n : Int) = a + ((n + 1 : Nat) : Int) by omega]; exact hr)⟩
theorem asc_flat : ∀ (ps : List (Int × Int)) (lo : Int), Ch (some lo) ps → Asc lo (ps.flatMap upP)
  | [], _, _ => trivial
  | q :: r, lo, h => by
    obtain ⟨hq, hp, hr⟩ := h
    have := hp lo rfl
    rw [List.flatMap_cons]
    unfold upP
    rw [show (q.2 - q.1 + 1).toNat = (q.2 - q.1).toNat + 1 by omega]
    exact asc_up _ _ _ _ (by omega) (by rw [show q.1 + ((q.2 - q.1).toNat : Int) = q.2 by omega]; exact asc_flat r q.2 hr)
theorem asc_getD : ∀ (xs : List Int) (lo : Int), Asc lo xs → ∀ i, i + 1 < xs.length → xs.getD i 0 < xs.getD (i + 1) 0
  | [], _, _, i, h => by simp at h
  | [x], _, _, i, h => by simp at h
  | x :: y :: r, lo, h, 0, _ => h.2.1
  | x :: y :: r, lo, h, i + 1, hi => by
    have := asc_getD (y :: r) x h.2 i (by simpa using hi)
    simpa using this
theorem ch_up {p : Option Int} {q : Option Int} {ps : List (Int × Int)} (h : Ch p ps) (e : ∀ a t, ps = a :: t → ∀ l, q = some l → l + 1 < a.1) : Ch q ps := by
  cases ps with
  | nil => trivial
  | cons a t => exact ⟨h.1, e a t rfl, h.2.2⟩
theorem ch_rng : ∀ (ps : List (Int × Int)) (p : Option Int), Ch p ps → ∀ z ∈ ps.flatMap upP, 0 ≤ z ∧ z ≤ 1000000000
  | [], _, _, z, hz => by simp at hz
  | q :: r, p, h, z, hz => by
    rw [List.flatMap_cons, List.mem_append] at hz
    rcases hz with hz | hz
    · unfold upP upL at hz
      obtain ⟨i, hi, rfl⟩ := List.mem_map.1 hz
      have := List.mem_range.1 hi
      have hq := h.1
      omega
    · exact ch_rng r _ h.2.2 z hz
theorem listE_flat {ps : List (Int × Int)} (h : Ch none ps) (hl : (ps.flatMap upP).length ≤ 500) : listE (ps.flatMap upP) = 0 := by
  have h1 : inR (ps.flatMap upP) = true := by
    unfold inR
    rw [List.all_eq_true]
    intro z hz
    have := ch_rng ps _ h z hz
    simp; omega
  have h2 : ascL (ps.flatMap upP) = true := asc_good (asc_getD _ (-2) (asc_flat ps (-2) (ch_up h fun a t e l hl => by cases hl; have := (e ▸ h).1.1; omega)))
  unfold listE
  rw [if_neg (by omega), if_pos h1, if_pos h2]
theorem listE_parts {xs : List Int} (h : listE xs = 0) : xs.length ≤ 500 ∧ (∀ z ∈ xs, 0 ≤ z ∧ z ≤ 1000000000) ∧ (∀ i, i + 1 < xs.length → xs.getD i 0 < xs.getD (i + 1) 0) := by
  unfold listE at h
  by_cases h1 : 500 < xs.length
  · rw [if_pos h1] at h; cases h
  rw [if_neg h1] at h
  by_cases h2 : inR xs = true
  · rw [if_pos h2] at h
    by_cases h3 : ascL xs = true
    · refine ⟨by omega, fun z hz => ?_, fun i hi => ?_⟩
      · unfold inR at h2
        have := List.all_eq_true.1 h2 z hz
        simpa using this
      · unfold ascL at h3
        have := List.all_eq_true.1 h3 i (List.mem_range.2 (by omega))
        simpa using this
    · rw [if_neg h3] at h; cases h
  · rw [if_neg h2] at h; cases h
theorem wr_no {a b : Int} (ha : 0 ≤ a) (hb : 0 ≤ b) : ∀ c ∈ wrS a b, c ≠ 44 := by
  intro c hc e
  subst e
  obtain ⟨na, _⟩ := itoa_nat ha
  obtain ⟨nb, _⟩ := itoa_nat hb
  unfold wrS at hc
  split at hc
  · exact (nat_no na).2 hc
  · simp only [List.mem_append] at hc
    rcases hc with (hc | hc) | hc
    · exact (nat_no na).2 hc
    · simp at hc
    · exact (nat_no nb).2 hc
theorem data_inj {a b : ByteArray} (h : a.data.toList = b.data.toList) : a = b := ByteArray.ext (Array.ext' h)
theorem map_data_inj : ∀ {L M : List ByteArray}, L.map (·.data.toList) = M.map (·.data.toList) → L = M
  | [], [], _ => rfl
  | [], b :: m, h => by simp at h
  | a :: l, [], h => by simp at h
  | a :: l, b :: m, h => by
    simp only [List.map_cons, List.cons.injEq] at h
    rw [data_inj h.1, map_data_inj h.2]
def wB (q : Int × Int) : ByteArray := wrB q.1 q.2
def itB (l : Int) : ByteArray := ⟨(Lib.itoa l).toArray⟩
theorem suc_itoa {l : Int} (h : 0 ≤ l) : sucS (itB l) = itB (l + 1) := by
  unfold sucS itB Lib.itoa
  rw [if_neg (by omega), if_neg (by omega)]
  show (⟨(sucL (Lib.decDigits _)).toArray⟩ : ByteArray) = _
  rw [suc_dec]
  congr 3
  omega
theorem spans_ok : ∀ (ps : List (Int × Int)) (p : Option Int), (∀ l, p = some l → 0 ≤ l) → Ch p ps → spansB (p.map itB) (ps.map wB) = true
  | [], p, _, _ => by cases p <;> rfl
  | q :: r, p, hp, h => by
    obtain ⟨hq, hc, hr⟩ := h
    obtain ⟨f1, f2, f3, _⟩ := run_read hq.1 hq.2.1 hq.2.2
    have ih := spans_ok r (some q.2) (fun l h => by cases h; omega) hr
    rw [List.map_cons]
    unfold spansB
    have e1 : spB (wB q) = true := f3
    have e2 : spL (wB q) = itB q.2 := f2
    have e3 : spF (wB q) = itB q.1 := f1
    rw [e1, e2, e3]
    have e4 : spansB (some (itB q.2)) (r.map wB) = true := ih
    rw [e4]
    cases p with
    | none => rfl
    | some l =>
      have hl := hp l rfl
      have hlt := hc l rfl
      obtain ⟨n1, v1⟩ := itoa_nat (a := l + 1) (by omega)
      obtain ⟨n2, v2⟩ := itoa_nat hq.1
      have : lowB (sucS (itB l)) (itB q.1) = true := by
        rw [suc_itoa hl]
        exact low_of_lt (a := itB (l + 1)) (b := itB q.1) n1 n2 (by show natFrom 0 (Lib.itoa (l + 1)) < natFrom 0 (Lib.itoa q.1); rw [v1, v2]; omega)
      show (true && (lowB (sucS (itB l)) (itB q.1) && true)) = true
      rw [this]; rfl
theorem flat_seq {ps : List (Int × Int)} : ∀ {p : Option Int}, Ch p ps → (ps.map wB).flatMap seqL = ps.flatMap upP := by
  induction ps with
  | nil => intro _ _; rfl
  | cons q r ih =>
    intro p h
    obtain ⟨hq, _, hr⟩ := h
    obtain ⟨_, _, _, f4, f5, _⟩ := run_read hq.1 hq.2.1 hq.2.2
    rw [List.map_cons, List.flatMap_cons, List.flatMap_cons, ih hr]
    congr 1
    show upL (numF (wrB q.1 q.2)) (numL (wrB q.1 q.2) - numF (wrB q.1 q.2) + 1).toNat = _
    rw [f4, f5]; rfl
theorem last_zero {ps : List (Int × Int)} : ∀ {p : Option Int}, Ch p ps → lastE (ps.map wB) = 0 ∧ ∀ x ∈ ps.map wB, numF x ≤ numL x := by
  induction ps with
  | nil => intro _ _; exact ⟨rfl, fun x hx => by simp at hx⟩
  | cons q r ih =>
    intro p h
    obtain ⟨hq, _, hr⟩ := h
    obtain ⟨_, _, _, f4, f5, f6⟩ := run_read hq.1 hq.2.1 hq.2.2
    obtain ⟨i1, i2⟩ := ih hr
    rw [List.map_cons]
    refine ⟨?_, fun x hx => ?_⟩
    · unfold lastE
      have : errL (wB q) = 0 := f6
      rw [this, if_neg (by simp)]; exact i1
    · rcases List.mem_cons.1 hx with rfl | hx
      · show numF (wrB q.1 q.2) ≤ numL (wrB q.1 q.2)
        rw [f4, f5]; exact hq.2.1
      · exact i2 x hx
/-- ParseList of List. -/
theorem list_parse {xs : List Int} (h : listE xs = 0) (hne : xs ≠ []) : parseLE ⟨(listS xs).toArray⟩ = 0 ∧ (listS xs) ≠ [45] ∧ (commaP ⟨(listS xs).toArray⟩).flatMap seqL = xs := by
  obtain ⟨h1, h2, h3⟩ := listE_parts h
  obtain ⟨ps, hc, hf⟩ := pairs_of xs none h2 h3 (fun l h => by cases h)
  have hps : ps ≠ [] := by rintro rfl; exact hne hf.symm
  have hS : listS xs = Lib.join (ps.map wrP) [44] := by
    unfold listS
    rw [if_pos h, if_neg hne, ← hf, runs_pairs ps _ hc]
  have hno : ∀ x ∈ ps.map wrP, ∀ c ∈ x, c ≠ 44 := by
    have : ∀ (ps : List (Int × Int)) (p : Option Int), Ch p ps → ∀ x ∈ ps.map wrP, ∀ c ∈ x, c ≠ 44 := by
      intro ps
      induction ps with
      | nil => intro p _ x hx; simp at hx
      | cons q r ih =>
        intro p h x hx
        rcases List.mem_cons.1 (by rw [List.map_cons] at hx; exact hx) with rfl | hx
        · exact wr_no h.1.1 (by have := h.1; omega)
        · exact ih _ h.2.2 x hx
    exact this ps _ hc
  have hcm : commaP ⟨(listS xs).toArray⟩ = ps.map wB := by
    apply map_data_inj
    rw [commaP_list]
    show c_parts (listS xs) = _
    rw [hS, c_join _ (by simpa using hps) hno, List.map_map]
    rfl
  have hsp : spansB none (commaP ⟨(listS xs).toArray⟩) = true := by rw [hcm]; exact spans_ok ps none (fun l h => by cases h) hc
  have h45 : listS xs ≠ [45] := by
    intro e
    rw [e] at hsp
    revert hsp
    decide +kernel
  obtain ⟨l1, l2⟩ := last_zero hc
  have hseq : (commaP ⟨(listS xs).toArray⟩).flatMap seqL = xs := by rw [hcm, flat_seq hc, hf]
  refine ⟨?_, h45, hseq⟩
  unfold parseLE
  rw [if_neg (by show ¬ listS xs = [45]; exact h45), if_neg (by rw [hsp]; simp), hcm, l1, if_neg (by simp)]
  have := seq_len (ps.map wB) l2
  rw [← hcm, hseq, hcm] at this
  rw [if_neg (by omega)]
theorem cut_first {c : UInt8} : ∀ {l : List UInt8}, c ∈ l → ∃ a b, l = a ++ c :: b ∧ c ∉ a
  | [], h => by cases h
  | x :: r, h => by
    by_cases hx : x = c
    · exact ⟨[], r, by rw [hx]; rfl, by simp⟩
    · obtain ⟨a, b, rfl, ha⟩ := cut_first (c := c) (l := r) (by rcases List.mem_cons.1 h with e | e; exact absurd e.symm hx; exact e)
      exact ⟨x :: a, b, rfl, by intro hc; rcases List.mem_cons.1 hc with e | e; exact hx e.symm; exact ha e⟩
theorem cut_back (l : List UInt8) : ((Lib.cut l [45]).2.2 = true → l = (Lib.cut l [45]).1 ++ 45 :: (Lib.cut l [45]).2.1) ∧ ((Lib.cut l [45]).2.2 = false → (Lib.cut l [45]).1 = l) := by
  by_cases hm : (45 : UInt8) ∈ l
  · obtain ⟨a, b, rfl, ha⟩ := cut_first hm
    rw [cut_at ha]
    exact ⟨fun _ => rfl, fun h => by cases h⟩
  · rw [cut_none hm]
    exact ⟨fun h => (by cases h), fun _ => rfl⟩
/-- A run that is read: its text. -/
theorem span_info {x : ByteArray} (h : spB x = true) (he : errL x = 0) : x.data.toList = wrS (numF x) (numL x) ∧ (0 ≤ numF x ∧ numF x ≤ numL x ∧ numL x ≤ 1000000000) ∧ spL x = itB (numL x) ∧ spF x = itB (numF x) := by
  have hle := num_le h he
  have r1 := intV_rng (spF x).data.toList
  have r2 := intV_rng (spL x).data.toList
  have key : ∀ (y : ByteArray), natL y.data.toList = true → outR y.data.toList 0 1000000000 = false → y = itB (intV y.data.toList 0 1000000000) := fun y hy ho => by
    obtain ⟨_, _, f3, f4⟩ := nat_form hy
    apply data_inj
    show _ = Lib.itoa _
    unfold intV
    rw [f3, ho, f4]
    simp only [Bool.not_false, Bool.and_true, if_true]
    unfold Lib.itoa
    rw [if_neg (by omega)]
    have := nat_dec _ hy
    rw [show ((natFrom 0 y.data.toList : Nat) : Int).toNat = natFrom 0 y.data.toList by omega, this]
  unfold spB at h
  rw [Bool.and_eq_true] at h
  obtain ⟨hF, h2⟩ := h
  have hcut := cut_back x.data.toList
  by_cases ht : (Lib.cut x.data.toList [45]).2.2 = true
  · rw [ht] at h2
    simp only [Bool.not_true, Bool.false_or, Bool.and_eq_true] at h2
    have hlt := nat_lower hF h2.1 h2.2
    obtain ⟨_, _, f3, f4⟩ := nat_form hF
    obtain ⟨_, _, l3, l4⟩ := nat_form h2.1
    unfold errL intE at he
    rw [l3, if_pos rfl] at he
    have ho' : outR (spL x).data.toList 0 1000000000 = false := by
      by_cases ho : outR (spL x).data.toList 0 1000000000 = true
      · rw [if_pos ho] at he; cases he
      · simpa using ho
    have hof : outR (spF x).data.toList 0 1000000000 = false := by
      unfold outR at ho' ⊢
      rw [l4] at ho'; rw [f4]
      simp at ho' ⊢; omega
    have kF := key _ hF hof
    have kL := key _ h2.1 ho'
    have hne : numF x ≠ numL x := by
      unfold numF numL intV
      rw [f3, l3, hof, ho', f4, l4]
      simp; omega
    refine ⟨?_, ⟨r1.1, hle, r2.2⟩, kL, kF⟩
    rw [hcut.1 ht]
    unfold wrS
    rw [if_neg hne]
    have e1 : (Lib.cut x.data.toList [45]).1 = (spF x).data.toList := rfl
    have e2 : (Lib.cut x.data.toList [45]).2.1 = (spL x).data.toList := by unfold spL; rw [if_pos ht]
    rw [e1, e2, kF, kL]
    show Lib.itoa _ ++ 45 :: Lib.itoa _ = Lib.itoa _ ++ [45] ++ Lib.itoa _
    rw [List.append_assoc]; rfl
  · have e0 : spL x = spF x := by unfold spL; rw [if_neg ht]
    have heq : numF x = numL x := by unfold numF numL; rw [e0]
    obtain ⟨_, _, f3, f4⟩ := nat_form hF
    unfold errL intE at he
    rw [e0, f3, if_pos rfl] at he
    have hof : outR (spF x).data.toList 0 1000000000 = false := by
      by_cases ho : outR (spF x).data.toList 0 1000000000 = true
      · rw [if_pos ho] at he; cases he
      · simpa using ho
    have kF := key _ hF hof
    refine ⟨?_, ⟨r1.1, hle, r2.2⟩, by rw [e0, ← heq]; exact kF, kF⟩
    have e1 : x.data.toList = (spF x).data.toList := (hcut.2 (by simpa using ht)).symm
    rw [e1]
    unfold wrS
    rw [if_pos heq]
    conv => lhs; rw [kF]
    rfl
theorem ch_of : ∀ (L : List ByteArray) (q : Option Int), (∀ l, q = some l → 0 ≤ l) → spansB (q.map itB) L = true → (∀ x ∈ L, spB x = true ∧ errL x = 0) → Ch q (L.map fun x => (numF x, numL x))
  | [], _, _, _, _ => trivial
  | x :: r, q, hq, h, ha => by
    obtain ⟨s1, s2⟩ := ha x List.mem_cons_self
    obtain ⟨_, hr, kL, kF⟩ := span_info s1 s2
    unfold spansB at h
    rw [Bool.and_eq_true, Bool.and_eq_true] at h
    obtain ⟨_, h2, h3⟩ := h
    rw [kL] at h3
    refine ⟨hr, fun l e => ?_, ch_of r (some (numL x)) (fun l e => by cases e; omega) h3 (fun y hy => ha y (List.mem_cons_of_mem _ hy))⟩
    subst e
    have hl := hq l rfl
    have h2' : lowB (sucS (itB l)) (spF x) = true := h2
    rw [suc_itoa hl, kF] at h2'
    obtain ⟨n1, v1⟩ := itoa_nat (a := l + 1) (by omega)
    obtain ⟨n2, v2⟩ := itoa_nat hr.1
    have := nat_lower (a := itB (l + 1)) (b := itB (numF x)) n1 n2 h2'
    have e1 : natFrom 0 (itB (l + 1)).data.toList = (l + 1).toNat := v1
    have e2 : natFrom 0 (itB (numF x)).data.toList = (numF x).toNat := v2
    rw [e1, e2] at this
    show l + 1 < numF x
    omega
theorem joinD_eq : ∀ (ps : List (List UInt8)), c_joinD ps = Lib.join ps [44]
  | [] => rfl
  | [p] => by rw [Lib.join_cons]; unfold Lib.joinTail; simp [c_joinD]
  | p :: q :: r => by
    have e : Lib.join (p :: q :: r) [44] = p ++ 44 :: Lib.join (q :: r) [44] := by
      rw [Lib.join_cons, Lib.join_cons]
      unfold Lib.joinTail
      simp
    rw [e, ← joinD_eq (q :: r)]; rfl
/-- List of ParseList. -/
theorem parse_list {s : ByteArray} (h45 : s.data.toList ≠ [45]) (h : parseLE s = 0) : listE ((commaP s).flatMap seqL) = 0 ∧ listS ((commaP s).flatMap seqL) = s.data.toList ∧ (commaP s).flatMap seqL ≠ [] := by
  unfold parseLE at h
  rw [if_neg h45] at h
  by_cases h1 : spansB none (commaP s) = false
  · rw [if_pos h1] at h; cases h
  rw [if_neg h1] at h
  have h1' : spansB none (commaP s) = true := by simpa using h1
  by_cases h2 : lastE (commaP s) ≠ 0
  · rw [if_pos h2] at h; exact absurd h h2
  rw [if_neg h2] at h
  have h2' : lastE (commaP s) = 0 := by simpa using h2
  by_cases h3 : 500 < manyL (commaP s)
  · rw [if_pos h3] at h; cases h
  have hall := spans_all _ none h1' h2'
  have hc : Ch none ((commaP s).map fun x => (numF x, numL x)) := ch_of _ none (fun l e => by cases e) h1' hall
  have hflat : (commaP s).flatMap seqL = ((commaP s).map fun x => (numF x, numL x)).flatMap upP := by
    rw [List.flatMap_map]; rfl
  have hlen := seq_len (commaP s) fun x hx => num_le (hall x hx).1 (hall x hx).2
  have hE : listE ((commaP s).flatMap seqL) = 0 := by rw [hflat]; exact listE_flat hc (by rw [← hflat]; omega)
  have hmap : ((commaP s).map fun x => (numF x, numL x)).map wrP = c_parts s.data.toList := by
    rw [← commaP_list, List.map_map]
    apply List.map_congr_left
    intro x hx
    exact (span_info (hall x hx).1 (hall x hx).2).1.symm
  have hne : (commaP s).flatMap seqL ≠ [] := by
    have h0 := c_parts_ne s.data.toList
    rw [hflat]
    cases hL : (commaP s).map (fun x => (numF x, numL x)) with
    | nil => rw [hL] at hmap; exact absurd hmap.symm h0
    | cons q r =>
      rw [hL] at hc
      rw [List.flatMap_cons, upP_cons hc.1.2.1]
      simp
  refine ⟨hE, ?_, hne⟩
  unfold listS
  rw [if_pos hE, if_neg hne, hflat, runs_pairs _ _ hc, hmap, ← joinD_eq, c_joinD_parts]
end Go.Proofs.YtoapfldmkpobmaaGreatDoor
