/- Layer 1: what a quoted form stands for (plain), and unescapeHex. -/
import Derived.Test.YtoapfldmkpobmaaGreatDoorG
import Derived.Deep.RegionWith
import Derived.BigQuiet
import Derived.Deep.QuietTactic
namespace Go.Proofs.YtoapfldmkpobmaaGreatDoor
open Go.RowKit
/-- The byte whose escaped form the list begins with. -/
def unescL (l : List UInt8) : Option UInt8 := ((List.range 256).map UInt8.ofNat).find? (fun c => (escL c).isPrefixOf l)
def unB (l : List UInt8) : UInt8 := (unescL l).getD 0
def unN (l : List UInt8) : Nat := match unescL l with | some c => (escL c).length | none => 0
theorem hexAt_ne (k : Nat) (h : k < 16) : hexAt k ≠ 34 := by
  have : ∀ k : Fin 16, hexAt k.val ≠ 34 := by decide
  exact this ⟨k, h⟩
theorem hexAt_inj (j k : Nat) (hj : j < 16) (hk : k < 16) (h : hexAt j = hexAt k) : j = k := by
  have : ∀ j k : Fin 16, hexAt j.val = hexAt k.val → j.val = k.val := by decide
  exact this ⟨j, hj⟩ ⟨k, hk⟩ h
/-- The forms of escape that begin with a backslash. -/
theorem escL_cases (c : UInt8) : (plainB c = true ∧ escL c = [c]) ∨ (plainB c = false ∧ ∃ k, k < 5 ∧ c = ev k ∧ escL c = [92, ec k]) ∨
    (plainB c = false ∧ (∀ j, j < 5 → ev j ≠ c) ∧ escL c = [92, 120, hexAt (c.toNat / 16), hexAt (c.toNat % 16)]) := by
  by_cases hp : plainB c = true
  · exact .inl ⟨hp, by unfold escL; rw [if_pos hp]⟩
  have hp' : plainB c = false := by simpa using hp
  by_cases h0 : c = 34
  · exact .inr (.inl ⟨hp', 0, by omega, h0, by unfold escL; rw [if_neg hp, if_pos h0]; rfl⟩)
  by_cases h1 : c = 92
  · exact .inr (.inl ⟨hp', 1, by omega, h1, by unfold escL; rw [if_neg hp, if_neg h0, if_pos h1]; rfl⟩)
  by_cases h2 : c = 10
  · exact .inr (.inl ⟨hp', 2, by omega, h2, by unfold escL; rw [if_neg hp, if_neg h0, if_neg h1, if_pos h2]; rfl⟩)
  by_cases h3 : c = 13
  · exact .inr (.inl ⟨hp', 3, by omega, h3, by unfold escL; rw [if_neg hp, if_neg h0, if_neg h1, if_neg h2, if_pos h3]; rfl⟩)
  by_cases h4 : c = 9
  · exact .inr (.inl ⟨hp', 4, by omega, h4, by unfold escL; rw [if_neg hp, if_neg h0, if_neg h1, if_neg h2, if_neg h3, if_pos h4]; rfl⟩)
  refine .inr (.inr ⟨hp', ?_, by unfold escL; rw [if_neg hp, if_neg h0, if_neg h1, if_neg h2, if_neg h3, if_neg h4]⟩)
  intro j hj
  match j, hj with
  | 0, _ => exact Ne.symm h0
  | 1, _ => exact Ne.symm h1
  | 2, _ => exact Ne.symm h2
  | 3, _ => exact Ne.symm h3
  | 4, _ => exact Ne.symm h4
theorem ec_inj (j k : Nat) (hj : j < 5) (hk : k < 5) (h : ec j = ec k) : j = k := by
  have : ∀ j k : Fin 5, ec j.val = ec k.val → j.val = k.val := by decide
  exact this ⟨j, hj⟩ ⟨k, hk⟩ h
theorem ec_ne (k : Nat) (hk : k < 5) : ec k ≠ 120 := by
  have : ∀ k : Fin 5, ec k.val ≠ 120 := by decide
  exact this ⟨k, hk⟩
theorem plain92 : plainB 92 = false := by decide
theorem u8_divmod (c d : UInt8) (h1 : c.toNat / 16 = d.toNat / 16) (h2 : c.toNat % 16 = d.toNat % 16) : c = d := by
  apply UInt8.toNat_inj.1; omega
theorem esc_uniq' (c d : UInt8) (t1 t2 : List UInt8) (h : escL c ++ t1 = escL d ++ t2) : c = d := by
  have hbc := c.toNat_lt
  have hbd := d.toNat_lt
  rcases escL_cases c with ⟨p1, e1⟩ | ⟨p1, k, hk, f1, e1⟩ | ⟨p1, n1, e1⟩ <;> rcases escL_cases d with ⟨p2, e2⟩ | ⟨p2, j, hj, f2, e2⟩ | ⟨p2, n2, e2⟩ <;> rw [e1, e2] at h <;>
    simp only [List.cons_append, List.nil_append, List.cons.injEq] at h
  · exact h.1
  · rw [h.1, plain92] at p1; cases p1
  · rw [h.1, plain92] at p1; cases p1
  · rw [← h.1, plain92] at p2; cases p2
  · rw [f1, f2, ec_inj k j hk hj h.2.1]
  · exact absurd h.2.1 (ec_ne k hk)
  · rw [← h.1, plain92] at p2; cases p2
  · exact absurd h.2.1.symm (ec_ne j hj)
  · exact u8_divmod c d (hexAt_inj _ _ (by omega) (by omega) h.2.2.1) (hexAt_inj _ _ (by omega) (by omega) h.2.2.2.1)
theorem pre_iff {l m : List UInt8} : l.isPrefixOf m = true ↔ ∃ t, l ++ t = m := List.isPrefixOf_iff_prefix
theorem esc_unique (c d : UInt8) (l : List UInt8) (hc : (escL c).isPrefixOf l = true) (hd : (escL d).isPrefixOf l = true) : c = d := by
  obtain ⟨t1, h1⟩ := pre_iff.1 hc
  obtain ⟨t2, h2⟩ := pre_iff.1 hd
  exact esc_uniq' c d t1 t2 (h1.trans h2.symm)
theorem mem_all (c : UInt8) : c ∈ (List.range 256).map UInt8.ofNat := by
  rw [List.mem_map]; exact ⟨c.toNat, by rw [List.mem_range]; exact c.toNat_lt, by simp⟩
theorem unescL_some {c : UInt8} {l : List UInt8} (h : (escL c).isPrefixOf l = true) : unescL l = some c := by
  unfold unescL
  cases e : List.find? (fun c => (escL c).isPrefixOf l) ((List.range 256).map UInt8.ofNat) with
  | none => rw [List.find?_eq_none] at e; exact absurd h (e c (mem_all c))
  | some d => rw [esc_unique c d l h (List.find?_some (p := fun c => (escL c).isPrefixOf l) e)]
theorem unescL_none {l : List UInt8} (h : ∀ c, (escL c).isPrefixOf l = false) : unescL l = none := by
  unfold unescL
  rw [List.find?_eq_none]
  intro c _; rw [h c]; simp
theorem unescL_inv {c : UInt8} {l : List UInt8} (h : unescL l = some c) : (escL c).isPrefixOf l = true := List.find?_some (p := fun c => (escL c).isPrefixOf l) h
theorem un_some {c : UInt8} {l : List UInt8} (h : (escL c).isPrefixOf l = true) : unB l = c ∧ unN l = (escL c).length := by
  unfold unB unN; rw [unescL_some h]; exact ⟨rfl, rfl⟩
theorem un_none {l : List UInt8} (h : ∀ c, (escL c).isPrefixOf l = false) : unB l = 0 ∧ unN l = 0 := by
  unfold unB unN; rw [unescL_none h]; exact ⟨rfl, rfl⟩

/-! What the branches of the code know. -/
theorem un_plain (c : UInt8) (r : List UInt8) (h : plainB c = true) : unescL (c :: r) = some c := by
  apply unescL_some
  rw [pre_iff]
  exact ⟨r, by unfold escL; rw [if_pos h]; rfl⟩
theorem un_first (c : UInt8) (r : List UInt8) (h : plainB c = false) (h92 : c ≠ 92) : unescL (c :: r) = none := by
  apply unescL_none
  intro d
  rw [Bool.eq_false_iff]
  intro hp
  obtain ⟨t, ht⟩ := pre_iff.1 hp
  rcases escL_cases d with ⟨p, e⟩ | ⟨p, k, hk, f, e⟩ | ⟨p, n, e⟩ <;> rw [e] at ht <;> simp only [List.cons_append, List.nil_append, List.cons.injEq] at ht
  · rw [ht.1, h] at p; cases p
  · exact h92 ht.1.symm
  · exact h92 ht.1.symm
theorem un_one (c : UInt8) (h : plainB c = false) : unescL [c] = none := by
  apply unescL_none
  intro d
  rw [Bool.eq_false_iff]
  intro hp
  obtain ⟨t, ht⟩ := pre_iff.1 hp
  rcases escL_cases d with ⟨p, e⟩ | ⟨p, k, hk, f, e⟩ | ⟨p, n, e⟩ <;> rw [e] at ht <;> simp at ht
  rw [ht.1, h] at p; cases p
theorem plain_ev (k : Nat) (hk : k < 5) : plainB (ev k) = false := by
  have : ∀ k : Fin 5, plainB (ev k.val) = false := by decide
  exact this ⟨k, hk⟩
theorem escL_ev (k : Nat) (hk : k < 5) : escL (ev k) = [92, ec k] := by
  have : ∀ k : Fin 5, escL (ev k.val) = [92, ec k.val] := by decide
  exact this ⟨k, hk⟩
theorem un_two (k : Nat) (hk : k < 5) (r : List UInt8) : unescL (92 :: ec k :: r) = some (ev k) := by
  apply unescL_some
  rw [pre_iff, escL_ev k hk]
  exact ⟨r, rfl⟩
/-- Behind a backslash: a letter that is none of the table's, and no x. -/
theorem un_bad (b : UInt8) (r : List UInt8) (h : ∀ k, k < 5 → ec k ≠ b) (hx : b ≠ 120) : unescL (92 :: b :: r) = none := by
  apply unescL_none
  intro d
  rw [Bool.eq_false_iff]
  intro hp
  obtain ⟨t, ht⟩ := pre_iff.1 hp
  rcases escL_cases d with ⟨p, e⟩ | ⟨p, k, hk, f, e⟩ | ⟨p, n, e⟩ <;> rw [e] at ht <;> simp only [List.cons_append, List.nil_append, List.cons.injEq] at ht
  · rw [ht.1, plain92] at p; cases p
  · exact h k hk ht.2.1
  · exact hx ht.2.1.symm
/-- Behind a backslash and x: the list is short, or its digits are none, or those of a byte that is written otherwise. -/
theorem un_hex (l : List UInt8) (h : ∀ b, escL b = [92, 120, hexAt (b.toNat / 16), hexAt (b.toNat % 16)] → ∀ t, [92, 120, hexAt (b.toNat / 16), hexAt (b.toNat % 16)] ++ t ≠ 92 :: 120 :: l) : unescL (92 :: 120 :: l) = none := by
  apply unescL_none
  intro d
  rw [Bool.eq_false_iff]
  intro hp
  obtain ⟨t, ht⟩ := pre_iff.1 hp
  rcases escL_cases d with ⟨p, e⟩ | ⟨p, k, hk, f, e⟩ | ⟨p, n, e⟩
  · rw [e] at ht; simp only [List.cons_append, List.nil_append, List.cons.injEq] at ht
    rw [ht.1, plain92] at p; cases p
  · rw [e] at ht; simp only [List.cons_append, List.nil_append, List.cons.injEq] at ht
    exact ec_ne k hk ht.2.1
  · exact h d e t (by rw [← e]; exact ht)
end Go.Proofs.YtoapfldmkpobmaaGreatDoor
