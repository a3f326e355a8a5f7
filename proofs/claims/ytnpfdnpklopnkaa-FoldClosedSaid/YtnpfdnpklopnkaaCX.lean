/- Layer 3: the laws of a boolean algebra. -/
import Derived.Test.YtnpfdnpklopnkaaCMk
import Derived.Deep.Cut
namespace Go.Proofs.Ytnpfdnpklopnkaa
open Go.RowKit
attribute [local go_sem] eq4 guard4 eq4z
/-- Block B is a variable of sets. -/
def IsSet (W : World) (B : Nat) : Prop := ∃ p, SA W B p
theorem IsSet.new (W : World) (B : Nat) (h : B = W.heap.size) : IsSet (W.alloc zeros) B := ⟨_, SA.zero' W B h⟩
theorem IsSet.alloc {W : World} {B : Nat} (h : IsSet W B) (o : Obj) : IsSet (W.alloc o) B := h.imp fun _ h => h.alloc o
theorem IsSet.drew {W : World} {B : Nat} (h : IsSet W B) : IsSet W.drew B := h
theorem IsSet.below {W W' : World} {B : Nat} (h : IsSet W B) (hb : Below W.heap.size W W') : IsSet W' B := h.imp fun _ h => h.below hb h.lt
theorem IsSet.setRow {W : World} {B C : Nat} (h : IsSet W B) (p : Nat → Bool) : IsSet (W.setRow C (sc p)) B := by
  obtain ⟨q, h⟩ := h
  by_cases e : B = C
  · subst e; exact ⟨p, h.setRow p⟩
  · exact ⟨q, (PutAt.setRow W C _).sa e h⟩
theorem run_setStore {W : World} {B : Nat} (h : IsSet W B) (q : Nat → Bool) : (storeCells ⟨B, 0, none⟩ (sc q).toList 0).run Try.prog W = .ok () (W.setRow B (sc q)) := h.choose_spec.store q
theorem IsSet.one (W : World) : IsSet (W.alloc zeros) W.heap.size := IsSet.new _ _ rfl
theorem IsSet.oneA (W : World) : IsSet ((W.alloc zeros).alloc zeros) W.heap.size := (IsSet.one W).alloc _
theorem IsSet.two (W : World) : IsSet ((W.alloc zeros).alloc zeros) (W.heap.size + 1) := IsSet.new _ _ (by simp)
theorem isSet_a (W : World) : IsSet (W.alloc (.cells #[.int .u64 0, .int .u64 0, .int .u64 0, .int .u64 0] 26)) W.heap.size = True := eq_true (IsSet.new W _ rfl)
theorem isSet_b (W : World) : IsSet ((W.alloc (.cells #[.int .u64 0, .int .u64 0, .int .u64 0, .int .u64 0] 26)).alloc (.cells #[.int .u64 0, .int .u64 0, .int .u64 0, .int .u64 0] 26)) W.heap.size = True := eq_true ((IsSet.new W _ rfl).alloc _)
theorem isSet_c (W : World) : IsSet ((W.alloc (.cells #[.int .u64 0, .int .u64 0, .int .u64 0, .int .u64 0] 26)).alloc (.cells #[.int .u64 0, .int .u64 0, .int .u64 0, .int .u64 0] 26)) (W.heap.size + 1) = True := eq_true (IsSet.new _ _ (by simp))
theorem isSet_row {W : World} {B C : Nat} (p : Nat → Bool) (h : IsSet W B) : IsSet (W.setRow C (sc p)) B = True := eq_true (h.setRow p)
attribute [local go_sem] run_setStore isSet_a isSet_b isSet_c isSet_row
theorem SA.rowOther {W : World} {B C : Nat} {p : Nat → Bool} (h : SA W B p) (q : Nat → Bool) (hne : B ≠ C) : SA (W.setRow C (sc q)) B p := (PutAt.setRow W C _).sa hne h
/-- What the law's second region leaves. -/
def CutP (n : Nat) (w : World) (p q : Nat → Bool) (s9 s10 : Value) (wx : World) : Prop :=
  ∃ B9 B10 : Nat, s9 = .pointer (some ⟨B9, 0, none⟩) ∧ s10 = .pointer (some ⟨B10, 0, none⟩) ∧ SA wx B9 p ∧ SA wx B10 q ∧ Below n w wx
theorem cut_close {n : Nat} {w X : World} {B9 B10 : Nat} (p q : Nat → Bool) (h9 : IsSet X B9) (h10 : IsSet X B10) (hne : B9 ≠ B10) (hb : Below n w X) (h1 : n ≤ B9) (h2 : n ≤ B10) :
    CutP n w p q (.pointer (some ⟨B9, 0, none⟩)) (.pointer (some ⟨B10, 0, none⟩)) ((X.setRow B9 (sc p)).setRow B10 (sc q)) := by
  obtain ⟨u, h9⟩ := h9
  obtain ⟨v, h10⟩ := h10
  have s9 := h9.setRow p
  have s10 := (PutAt.setRow X B9 (sc p)).sa (Ne.symm hne) h10
  exact ⟨B9, B10, rfl, rfl, (PutAt.setRow _ B10 (sc q)).sa hne s9, s10.setRow q, (hb.trans ((PutAt.setRow X B9 _).below h1)).trans ((PutAt.setRow _ B10 _).below h2)⟩
/-- Two sets lie in a world that is as w3 was, below n. -/
structure St (w3 : World) (A B : Nat) (a b : Nat → Bool) (Y : World) : Prop where
  a : SA Y A a
  b : SA Y B b
  lt : A < w3.heap.size ∧ B < w3.heap.size
  bel : Below w3.heap.size w3 Y
section
variable {w3 Y Z : World} {A B : Nat} {a b : Nat → Bool}
theorem St.alloc (h : St w3 A B a b Y) (o : Obj) : St w3 A B a b (Y.alloc o) := ⟨h.a.alloc o, h.b.alloc o, h.lt, h.bel.alloc h.bel.size o⟩
theorem St.below (h : St w3 A B a b Y) (hb : Below Y.heap.size Y Z) : St w3 A B a b Z := ⟨h.a.below hb h.a.lt, h.b.below hb h.b.lt, h.lt, h.bel.trans (hb.mono h.bel.size)⟩
theorem St.drew (h : St w3 A B a b Y) : St w3 A B a b Y.drew := ⟨h.a, h.b, h.lt, h.bel.drew⟩
theorem St.row (h : St w3 A B a b Y) (C : Nat) (q : Nat → Bool) (hC : w3.heap.size ≤ C) : St w3 A B a b (Y.setRow C (sc q)) :=
  ⟨h.a.rowOther q (by have := h.lt; omega), h.b.rowOther q (by have := h.lt; omega), h.lt, h.bel.trans ((PutAt.setRow Y C _).below hC)⟩
theorem St.eight (h : St w3 A B a b Y) : Y.cell? ⟨A, 0, none⟩ = some (wv a 0) ∧ Y.cell? ⟨A, 1, none⟩ = some (wv a 1) ∧ Y.cell? ⟨A, 2, none⟩ = some (wv a 2) ∧ Y.cell? ⟨A, 3, none⟩ = some (wv a 3) ∧
    Y.cell? ⟨B, 0, none⟩ = some (wv b 0) ∧ Y.cell? ⟨B, 1, none⟩ = some (wv b 1) ∧ Y.cell? ⟨B, 2, none⟩ = some (wv b 2) ∧ Y.cell? ⟨B, 3, none⟩ = some (wv b 3) :=
  ⟨h.a.four.1, h.a.four.2.1, h.a.four.2.2.1, h.a.four.2.2.2, h.b.four⟩
end
end Go.Proofs.Ytnpfdnpklopnkaa
