/- The parts of a trace, plain. -/
import Derived.Test.YtihhgnjkmhdpmaaGreatDoorK
import Derived.Test.YtihhgnjkmhdpmaaGreatDoorH
namespace Go.Proofs.YtihhgnjkmhdpmaaGreatDoor
open Go.RowKit
def rgBad (r : Rg) : Bool := decide (r.2.1 < 0) || decide (r.2.2 < 1) || decide (65536 - r.2.2 < r.2.1)
def rgOk (r : Rg) : Prop := 0 ≤ r.2.1 ∧ 1 ≤ r.2.2 ∧ r.2.1 + r.2.2 ≤ 65536
theorem rgBad_iff (r : Rg) : rgBad r = false ↔ rgOk r := by
  unfold rgBad rgOk
  simp
  omega
/-- Two regions have a cell in common. -/
def ovl (a b : Rg) : Prop := a.2.1 < b.2.1 + b.2.2 ∧ b.2.1 < a.2.1 + a.2.2
theorem ovl_symm {a b : Rg} (h : ovl a b) : ovl b a := ⟨h.2, h.1⟩
def apartR (rs : List Rg) : Prop := rs.Pairwise (fun a b => ¬ ovl a b)
open Classical in
/-- The error of Parts. -/
noncomputable def partE (rs : List Rg) : Int := if rs.any rgBad = true then 7 else if apartR rs then 0 else 6
theorem partE_7 {rs : List Rg} {r : Rg} (hr : r ∈ rs) (hb : rgBad r = true) : partE rs = 7 := by
  unfold partE; rw [if_pos (List.any_eq_true.2 ⟨r, hr, hb⟩)]
theorem partE_ok {rs : List Rg} (h : ∀ r ∈ rs, rgOk r) (ha : apartR rs) : partE rs = 0 := by
  unfold partE
  rw [if_neg, if_pos ha]
  intro e
  obtain ⟨r, hr, hb⟩ := List.any_eq_true.1 e
  rw [(rgBad_iff r).2 (h r hr)] at hb; cases hb
theorem partE_6 {rs : List Rg} (h : ∀ r ∈ rs, rgOk r) (ha : ¬ apartR rs) : partE rs = 6 := by
  unfold partE
  rw [if_neg, if_neg ha]
  intro e
  obtain ⟨r, hr, hb⟩ := List.any_eq_true.1 e
  rw [(rgBad_iff r).2 (h r hr)] at hb; cases hb
theorem partE_zero {rs : List Rg} (h : partE rs = 0) : (∀ r ∈ rs, rgOk r) ∧ apartR rs := by
  unfold partE at h
  split at h
  · cases h
  · rename_i h1
    split at h
    · rename_i h2
      refine ⟨fun r hr => (rgBad_iff r).1 ?_, h2⟩
      cases e : rgBad r
      · rfl
      · exact absurd (List.any_eq_true.2 ⟨r, hr, e⟩) h1
    · cases h
def inR (r : Rg) (a : Int) : Prop := r.2.1 ≤ a ∧ a < r.2.1 + r.2.2
instance (r : Rg) (a : Int) : Decidable (inR r a) := by unfold inR; infer_instance
/-- The index of the region in which an address lies, or their number. -/
def fndR : List Rg → Int → Nat
  | [], _ => 0
  | r :: t, a => if inR r a then 0 else fndR t a + 1
theorem fndR_le : ∀ (rs : List Rg) (a : Int), fndR rs a ≤ rs.length
  | [], _ => Nat.le_refl _
  | r :: t, a => by have := fndR_le t a; rw [fndR]; split <;> simp <;> omega
theorem fndR_at : ∀ {rs : List Rg} {a : Int} {j : Nat} {r : Rg}, rs[j]? = some r → inR r a → (∀ i r', i < j → rs[i]? = some r' → ¬ inR r' a) → fndR rs a = j
  | [], _, _, _, h, _, _ => by simp at h
  | s :: t, a, 0, r, h, hi, _ => by simp at h; subst h; rw [fndR, if_pos hi]
  | s :: t, a, j + 1, r, h, hi, hn => by
    rw [fndR, if_neg (hn 0 s (by omega) rfl), fndR_at (by simpa using h) hi (fun i r' hij hr' => hn (i + 1) r' (by omega) (by simpa using hr'))]
theorem fndR_none : ∀ {rs : List Rg} {a : Int}, (∀ r ∈ rs, ¬ inR r a) → fndR rs a = rs.length
  | [], _, _ => rfl
  | s :: t, a, h => by rw [fndR, if_neg (h s (by simp)), fndR_none (fun r hr => h r (by simp [hr]))]; rfl
theorem apart_one {rs : List Rg} (h : apartR rs) {i j : Nat} {r s : Rg} {a : Int} (hr : rs[i]? = some r) (hs : rs[j]? = some s) (h1 : inR r a) (h2 : inR s a) : i = j := by
  have key : ∀ {i j : Nat} {r s : Rg}, rs[i]? = some r → rs[j]? = some s → inR r a → inR s a → ¬ i < j := by
    intro i j r s hr hs h1 h2 hlt
    obtain ⟨b1, e1⟩ := List.getElem?_eq_some_iff.1 hr
    obtain ⟨b2, e2⟩ := List.getElem?_eq_some_iff.1 hs
    have := List.pairwise_iff_getElem.1 h i j b1 b2 hlt
    rw [e1, e2] at this
    exact this ⟨by unfold inR at h1 h2; omega, by unfold inR at h1 h2; omega⟩
  rcases Nat.lt_trichotomy i j with h | h | h
  · exact absurd h (key hr hs h1 h2)
  · exact h
  · exact absurd h (key hs hr h2 h1)
theorem fndR_one {rs : List Rg} (h : apartR rs) {j : Nat} {r : Rg} {a : Int} (hr : rs[j]? = some r) (h1 : inR r a) : fndR rs a = j :=
  fndR_at hr h1 (fun i r' hij hr' h2 => by have := apart_one h hr' hr h2 h1; omega)
/-! ### the places of regions -/
theorem mem_plc : ∀ {rs : List Rg} {i : Nat} {q : Pl}, q ∈ plc i rs → ∃ j r, rs[j]? = some r ∧ q = (r.2.1, r.2.1 + r.2.2, ((i + j : Nat) : Int))
  | [], _, _, h => by cases h
  | s :: t, i, q, h => by
    rw [plc] at h
    rcases List.mem_cons.1 h with rfl | h
    · exact ⟨0, s, rfl, by simp⟩
    · obtain ⟨j, r, h1, h2⟩ := mem_plc h
      exact ⟨j + 1, r, by simpa using h1, by rw [h2]; congr 3; omega⟩
def ovlP (p q : Pl) : Prop := p.1 < q.2.1 ∧ q.1 < p.2.1
theorem plc_pair : ∀ (rs : List Rg) (i : Nat), (plc i rs).Pairwise (fun p q => ¬ ovlP p q) ↔ apartR rs
  | [], _ => by simp [plc, apartR]
  | s :: t, i => by
    unfold apartR
    rw [plc, List.pairwise_cons, List.pairwise_cons]
    have ih := plc_pair t (i + 1)
    unfold apartR at ih
    rw [ih]
    constructor
    · rintro ⟨h1, h2⟩
      refine ⟨fun r hr => ?_, h2⟩
      obtain ⟨j, hj⟩ := List.getElem?_of_mem hr
      exact h1 _ (List.mem_of_getElem? (plc_at (i := i + 1) hj))
    · rintro ⟨h1, h2⟩
      refine ⟨fun q hq => ?_, h2⟩
      obtain ⟨j, r, h3, rfl⟩ := mem_plc hq
      exact h1 r (List.mem_of_getElem? h3)
section
variable {W : World} {B : Nat} {d : Array Pl} {rs : List Rg}
theorem InOrd.of (h : InOrd W B d rs) {i : Nat} (hi : i < rs.length) : ∃ (j : Nat) (r : Rg), rs[j]? = some r ∧ d[i]! = (r.2.1, r.2.1 + r.2.2, (j : Int)) := by
  have hs : i < d.size := by rw [h.size]; exact hi
  have hm : d[i]! ∈ d.toList := by rw [getElem!_pos _ i hs, ← Array.getElem_toList]; exact List.getElem_mem _
  obtain ⟨j, r, h1, h2⟩ := mem_plc (h.perm.mem_iff.1 hm)
  exact ⟨j, r, h1, by rw [h2]; simp⟩
theorem InOrd.has (h : InOrd W B d rs) {j : Nat} {r : Rg} (hr : rs[j]? = some r) : ∃ i, i < rs.length ∧ d[i]! = (r.2.1, r.2.1 + r.2.2, (j : Int)) := by
  have hm : (r.2.1, r.2.1 + r.2.2, (j : Int)) ∈ d.toList := h.perm.mem_iff.2 (by
    have := List.mem_of_getElem? (plc_at (i := 0) hr)
    simpa using this)
  obtain ⟨i, hi, e⟩ := List.getElem_of_mem hm
  have hs : i < d.size := by simpa using hi
  refine ⟨i, by rw [← h.size]; exact hs, ?_⟩
  rw [getElem!_pos _ i hs, ← Array.getElem_toList]; exact e
/-- Neighbours end where the next ones begin, or before. -/
def nextOk (d : Array Pl) (n : Nat) : Prop := ∀ i, i + 1 < n → (d[i]!).2.1 ≤ (d[i + 1]!).1
theorem InOrd.apart (h : InOrd W B d rs) (hg : ∀ r ∈ rs, rgOk r) : nextOk d rs.length ↔ apartR rs := by
  have hlt : ∀ i, i < rs.length → (d[i]!).1 < (d[i]!).2.1 := fun i hi => by
    obtain ⟨j, r, h1, h2⟩ := h.of hi
    have := hg r (List.mem_of_getElem? h1)
    rw [h2]; unfold rgOk at this; simp only; omega
  have hpw : d.toList.Pairwise (fun p q => ¬ ovlP p q) ↔ apartR rs :=
    (h.perm.pairwise_iff (fun {a b} (hab : ¬ ovlP a b) => fun hba => hab ⟨hba.2, hba.1⟩)).trans (plc_pair rs 0)
  rw [← hpw]
  have hat : ∀ i (hi : i < d.toList.length), d.toList[i] = d[i]! := fun i hi => by
    rw [Array.getElem_toList, getElem!_pos _ i (by simpa using hi)]
  constructor
  · intro hn
    have chain : ∀ j i, i < j → j < rs.length → (d[i]!).2.1 ≤ (d[j]!).1 := by
      intro j
      induction j with
      | zero => intro i h1; omega
      | succ j ih =>
        intro i h1 h2
        have h3 := hn j h2
        rcases Nat.lt_or_ge i j with h4 | h4
        · have := ih i h4 (by omega)
          have := hlt j (by omega)
          omega
        · obtain rfl : i = j := by omega
          exact h3
    rw [List.pairwise_iff_getElem]
    intro i j hi hj hij
    rw [hat, hat]
    have := chain j i hij (by rw [← h.size]; simpa using hj)
    unfold ovlP; omega
  · intro hp i hi
    rw [List.pairwise_iff_getElem] at hp
    have h1 : i < d.toList.length := by simp; rw [h.size]; omega
    have h2 : i + 1 < d.toList.length := by simp; rw [h.size]; omega
    have := hp i (i + 1) h1 h2 (by omega)
    rw [hat, hat] at this
    have s := h.sorted i (i + 1) (by omega) hi
    have l1 := hlt (i + 1) hi
    unfold ovlP at this; omega
theorem count_mono : ∀ (n : Nat) (p : Nat → Bool), (∀ i j, i < j → j < n → p i = true → p j = true) → ∀ i, i < n → (i < (List.range n).countP (fun i => !p i) ↔ p i = false)
  | 0, _, _, _, h => by omega
  | n + 1, p, hm, i, hi => by
    have ih := count_mono n p (fun i j h1 h2 => hm i j h1 (by omega))
    have hle : (List.range n).countP (fun i => !p i) ≤ n := by
      have := List.countP_le_length (p := fun i => !p i) (l := List.range n)
      rwa [List.length_range] at this
    rw [List.range_succ, List.countP_append]
    by_cases hn : p n = true
    · have e : (List.countP (fun i => !p i) [n]) = 0 := by simp [hn]
      rw [e, Nat.add_zero]
      rcases Nat.lt_or_ge i n with h | h
      · exact ih i h
      · obtain rfl : i = n := by omega
        constructor
        · intro h2; omega
        · intro h2; rw [hn] at h2; cases h2
    · have hn : p n = false := by simpa using hn
      have e : (List.countP (fun i => !p i) [n]) = 1 := by simp [hn]
      have hall : ∀ j, j < n → p j = false := fun j hj => by
        cases hpj : p j
        · rfl
        · rw [hm j n hj (by omega) hpj] at hn; cases hn
      have hc : (List.range n).countP (fun i => !p i) = n := by
        have : (List.range n).countP (fun i => !p i) = (List.range n).length := List.countP_eq_length.2 (fun j hj => by rw [hall j (List.mem_range.1 hj)]; rfl)
        rwa [List.length_range] at this
      rw [e, hc]
      constructor
      · intro _
        rcases Nat.lt_or_ge i n with h | h
        · exact hall i h
        · obtain rfl : i = n := by omega
          exact hn
      · intro _; omega
theorem InOrd.mono (h : InOrd W B d rs) (hg : ∀ r ∈ rs, rgOk r) (hn : nextOk d rs.length) : ∀ i j, i < j → j < rs.length → (d[i]!).2.1 ≤ (d[j]!).2.1 := by
  have hlt : ∀ i, i < rs.length → (d[i]!).1 < (d[i]!).2.1 := fun i hi => by
    obtain ⟨j, r, h1, h2⟩ := h.of hi
    have := hg r (List.mem_of_getElem? h1)
    rw [h2]; unfold rgOk at this; simp only; omega
  intro i j
  induction j with
  | zero => intro h1; omega
  | succ j ih =>
    intro h1 h2
    have h3 := hn j h2
    have h4 := hlt (j + 1) h2
    rcases Nat.lt_or_ge i j with h5 | h5
    · have := ih h5 (by omega)
      omega
    · obtain rfl : i = j := by omega
      omega
theorem InOrd.find (h : InOrd W B d rs) (hg : ∀ r ∈ rs, rgOk r) (hn : nextOk d rs.length) (a : Int) : fndD d rs.length a = ((fndR rs a : Nat) : Int) := by
  have hap := (h.apart hg).1 hn
  have hm := h.mono hg hn
  obtain ⟨k, hk⟩ : ∃ k, lowN d rs.length a = k := ⟨_, rfl⟩
  have hkn := lowN_le d rs.length a
  have spec : ∀ i, i < rs.length → (i < k ↔ (d[i]!).2.1 ≤ a) := fun i hi => by
    have := count_mono rs.length (fun i => decide (a < (d[i]!).2.1)) (fun i j h1 h2 h3 => by simp at h3 ⊢; have := hm i j h1 h2; omega) i hi
    unfold lowN at hk
    rw [hk] at this
    rw [this]; simp
  rw [hk] at hkn
  unfold fndD
  rw [hk]
  by_cases hc : k = rs.length ∨ a < (d[k]!).1
  · rw [if_pos hc, fndR_none]
    intro r hr hin
    obtain ⟨j, hj⟩ := List.getElem?_of_mem hr
    obtain ⟨i, hi, e⟩ := h.has hj
    have h1 : ¬ i < k := fun h2 => by
      have := (spec i hi).1 h2
      rw [e] at this; simp only at this
      unfold inR at hin; omega
    rcases hc with hc | hc
    · omega
    · have h3 : (d[k]!).1 ≤ (d[i]!).1 := by
        rcases Nat.lt_or_ge k i with h4 | h4
        · exact h.sorted k i h4 hi
        · obtain rfl : i = k := by omega
          exact Int.le_refl _
      rw [e] at h3
      simp only at h3
      unfold inR at hin; omega
  · rw [if_neg hc]
    have hlt : k < rs.length := by omega
    obtain ⟨j, r, h1, h2⟩ := h.of hlt
    have h3 : ¬ (d[k]!).2.1 ≤ a := fun h4 => by have := (spec k hlt).2 h4; omega
    rw [h2] at hc h3 ⊢
    simp only at hc h3 ⊢
    rw [fndR_one hap h1 (by unfold inR; omega)]
end
def gR (rs : List Rg) (j : Nat) (x : Ev) : Bool := fndR rs x.2 == j
/-- The parts of a trace. -/
def partsL (rs : List Rg) (l : List Ev) : List Int := (List.range (rs.length + 1)).map (fun j => ((cntG (gR rs j) l : Nat) : Int))
theorem partsL_len (rs : List Rg) (l : List Ev) : (partsL rs l).length = rs.length + 1 := by unfold partsL; simp
theorem partsL_at (rs : List Rg) (l : List Ev) {j : Nat} (hj : j < rs.length + 1) : (partsL rs l)[j]? = some ((cntG (gR rs j) l : Nat) : Int) := by
  unfold partsL
  rw [List.getElem?_map, List.getElem?_range hj]; rfl
noncomputable def partsR (rs : List Rg) (l : List Ev) : List Int := if partE rs = 0 then partsL rs l else []
end Go.Proofs.YtihhgnjkmhdpmaaGreatDoor
