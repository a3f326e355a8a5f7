/- Plain mathematics of layer 4: strings without case. No program. -/
import Derived.Test.YtnpfdnpklopnkaaFPlain
import Derived.Lib.Strings
namespace Go.Proofs.Ytnpfdnpklopnkaa
theorem length_data (s : ByteArray) : s.data.toList.length = s.size := by simp
theorem take_size (s : ByteArray) : s.data.toList.take s.size = s.data.toList := List.take_of_length_le (by simp)
def cmpN (x y : Nat) : Int := if x < y then -1 else if y < x then 1 else 0
def lowU (c : UInt8) : UInt8 := UInt8.ofNat (lowN c.toNat)
theorem lowU_nat (c : UInt8) : (lowU c).toNat = lowN c.toNat := by
  have := lowN_lt (show c.toNat < 256 from c.toNat_lt)
  unfold lowU; simp; omega
theorem lowU_low (c : UInt8) : lowU (lowU c) = lowU c := by
  apply UInt8.toNat_inj.1; rw [lowU_nat, lowU_nat, low_low]
def keyL (l : List UInt8) : List UInt8 := l.map lowU
def keyS (s : ByteArray) : ByteArray := ⟨(keyL s.data.toList).toArray⟩
theorem keyS_data (s : ByteArray) : (keyS s).data.toList = keyL s.data.toList := rfl
theorem keyS_size (s : ByteArray) : (keyS s).size = s.size := by
  rw [← length_data, keyS_data]; unfold keyL; rw [List.length_map, length_data]
/-- The order of small forms. -/
def cmpK : List UInt8 → List UInt8 → Int
  | [], [] => 0
  | [], _ :: _ => -1
  | _ :: _, [] => 1
  | a :: as, b :: bs => if cmpN (lowN a.toNat) (lowN b.toNat) = 0 then cmpK as bs else cmpN (lowN a.toNat) (lowN b.toNat)
theorem cmpN_zero {x y : Nat} : cmpN x y = 0 ↔ x = y := by unfold cmpN; split <;> (try split) <;> omega
theorem cmpN_neg (x y : Nat) : cmpN x y = - cmpN y x := by unfold cmpN; split <;> (try split) <;> (try split) <;> omega
theorem cmpN_cases (x y : Nat) : cmpN x y = -1 ∨ cmpN x y = 0 ∨ cmpN x y = 1 := by unfold cmpN; split <;> (try split) <;> omega
theorem cmpK_zero : ∀ (a b : List UInt8), cmpK a b = 0 ↔ keyL a = keyL b
  | [], [] => by simp [cmpK, keyL]
  | [], _ :: _ => by simp [cmpK, keyL]
  | _ :: _, [] => by simp [cmpK, keyL]
  | a :: as, b :: bs => by
    unfold cmpK
    have ih := cmpK_zero as bs
    unfold keyL at ih ⊢
    rw [List.map_cons, List.map_cons, List.cons.injEq, ← UInt8.toNat_inj, lowU_nat, lowU_nat]
    split
    · rw [ih]; have := cmpN_zero.1 ‹_›; simp [this]
    · have h := ‹¬ cmpN _ _ = 0›
      have h2 := fun e => h (cmpN_zero.2 e)
      constructor
      · intro e; exact absurd e h
      · rintro ⟨e, _⟩; exact absurd e h2
theorem cmpK_neg : ∀ (a b : List UInt8), cmpK a b = - cmpK b a
  | [], [] => rfl
  | [], _ :: _ => rfl
  | _ :: _, [] => rfl
  | a :: as, b :: bs => by
    unfold cmpK
    have ih := cmpK_neg as bs
    have h := cmpN_neg (lowN a.toNat) (lowN b.toNat)
    split
    · rw [if_pos (by omega), ih]
    · rw [if_neg (by omega), h]
theorem cmpK_cases : ∀ (a b : List UInt8), cmpK a b = -1 ∨ cmpK a b = 0 ∨ cmpK a b = 1
  | [], [] => by simp [cmpK]
  | [], _ :: _ => by simp [cmpK]
  | _ :: _, [] => by simp [cmpK]
  | a :: as, b :: bs => by
    unfold cmpK
    split
    · exact cmpK_cases as bs
    · exact cmpN_cases _ _
/-- Are two strings alike? -/
def alikeL (a b : List UInt8) : Bool := cmpK a b == 0
theorem alikeL_iff {a b : List UInt8} : alikeL a b = true ↔ keyL a = keyL b := by unfold alikeL; rw [beq_iff_eq, cmpK_zero]
theorem drop_at (s : ByteArray) {k : Nat} (h : k < s.size) : s.data.toList.drop k = s[k] :: s.data.toList.drop (k + 1) := by
  rw [List.drop_eq_getElem_cons (by simpa using h)]; rfl
theorem cmpK_step (a b : ByteArray) {k : Nat} (ha : k < a.size) (hb : k < b.size) (h : lowN a[k].toNat = lowN b[k].toNat) :
    cmpK (a.data.toList.drop k) (b.data.toList.drop k) = cmpK (a.data.toList.drop (k + 1)) (b.data.toList.drop (k + 1)) := by
  rw [drop_at a ha, drop_at b hb, cmpK, if_pos (cmpN_zero.2 h)]
theorem cmpK_here (a b : ByteArray) {k : Nat} (ha : k < a.size) (hb : k < b.size) (h : cmpN (lowN a[k].toNat) (lowN b[k].toNat) ≠ 0) :
    cmpK (a.data.toList.drop k) (b.data.toList.drop k) = cmpN (lowN a[k].toNat) (lowN b[k].toNat) := by
  rw [drop_at a ha, drop_at b hb, cmpK, if_neg h]
theorem cmpK_end (a b : ByteArray) : cmpK (a.data.toList.drop (min a.size b.size)) (b.data.toList.drop (min a.size b.size)) = cmpN a.size b.size := by
  rcases Nat.lt_trichotomy a.size b.size with h | h | h
  · rw [Nat.min_eq_left (by omega), List.drop_eq_nil_of_le (by simp), drop_at b h]
    unfold cmpN; rw [if_pos h]; rfl
  · rw [h, Nat.min_self, List.drop_eq_nil_of_le (by simp; omega), List.drop_eq_nil_of_le (by simp)]
    unfold cmpN; simp; rfl
  · rw [Nat.min_eq_right (by omega), List.drop_eq_nil_of_le (as := b.data.toList) (by simp), drop_at a h]
    unfold cmpN; rw [if_neg (by omega), if_pos h]; rfl
end Go.Proofs.Ytnpfdnpklopnkaa
