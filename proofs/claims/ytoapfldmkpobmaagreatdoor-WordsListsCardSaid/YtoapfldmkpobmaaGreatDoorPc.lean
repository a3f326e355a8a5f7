/- Layer 1: ParseList's runs, plain. -/
import Derived.Test.YtoapfldmkpobmaaGreatDoorPb
namespace Go.Proofs.YtoapfldmkpobmaaGreatDoor
open Go.RowKit
def commaP (s : ByteArray) : List ByteArray := Lib.splitB ⟨#[44]⟩ 0 (Lib.countB s ⟨#[44]⟩) s
theorem splitB_le (sep : ByteArray) : ∀ (k : Nat) (s : ByteArray), ∀ x ∈ Lib.splitB sep 0 k s, x.size ≤ s.size
  | 0, s, x, h => by
    rw [Lib.splitB_zero] at h
    simp at h; rw [h]; exact Nat.le_refl _
  | k + 1, s, x, h => by
    unfold Lib.splitB at h
    split at h
    · simp at h; rw [h]; exact Nat.le_refl _
    · rcases List.mem_cons.1 h with rfl | h
      · rw [ByteArray.size_extract]; omega
      · have := splitB_le sep k _ x h
        rw [ByteArray.size_extract] at this; omega
theorem splitB_count (sep : ByteArray) : ∀ (k : Nat) (s : ByteArray), (Lib.splitB sep 0 k s).length ≤ k + 1
  | 0, s => by rw [Lib.splitB_zero]; simp
  | k + 1, s => by
    unfold Lib.splitB
    split
    · simp
    · have := splitB_count sep k (s.extract ((Lib.indexB s sep).toNat + sep.size) s.size)
      simp only [List.length_cons]; omega
theorem commaP_le {s x : ByteArray} (h : x ∈ commaP s) : x.size ≤ s.size := splitB_le _ _ _ _ h
theorem commaP_len (s : ByteArray) : (commaP s).length ≤ s.size + 2 := by
  have h1 := splitB_count ⟨#[44]⟩ (Lib.countB s ⟨#[44]⟩) s
  have h2 : Lib.countB s ⟨#[44]⟩ ≤ s.data.toList.length + 1 := Lib.count_le _ _
  rw [length_data] at h2
  unfold commaP; omega
/-- The runs are runs, and each begins two at least behind the one before it. -/
def spansB : Option ByteArray → List ByteArray → Bool
  | _, [] => true
  | p, x :: r => spB x && ((match p with | none => true | some p => lowB (sucS p) (spF x)) && spansB (some (spL x)) r)
def encSp (x : ByteArray) : List Value := [.string (spF x), .string (spL x)]
def prevSp (L : List ByteArray) (k : Nat) : Option ByteArray := if k = 0 then none else some (spL (L.getD (k - 1) ⟨#[]⟩))
theorem spansB_at {L : List ByteArray} {k : Nat} {x : ByteArray} (h : L[k]? = some x) : spansB (prevSp L k) (L.drop k) = (spB x && ((match prevSp L k with | none => true | some p => lowB (sucS p) (spF x)) && spansB (prevSp L (k + 1)) (L.drop (k + 1)))) := by
  have hk := (List.getElem?_eq_some_iff.1 h).1
  rw [List.drop_eq_getElem_cons hk, (List.getElem?_eq_some_iff.1 h).2]
  simp only [spansB]
  have e : prevSp L (k + 1) = some (spL x) := by
    unfold prevSp
    rw [if_neg (by omega), Nat.add_sub_cancel, List.getD_eq_getElem?_getD, h]
    rfl
  rw [e]
theorem enc_len (L : List ByteArray) : (L.flatMap encSp).length = L.length * 2 := by
  induction L with
  | nil => rfl
  | cons x r ih => rw [List.flatMap_cons, List.length_append, ih]; simp [encSp]; omega
theorem enc_get : ∀ {L : List ByteArray} {k : Nat} {x : ByteArray}, L[k]? = some x → (L.flatMap encSp)[k * 2]? = some (.string (spF x)) ∧ (L.flatMap encSp)[k * 2 + 1]? = some (.string (spL x))
  | [], k, x, h => by simp at h
  | y :: r, 0, x, h => by
    obtain rfl : y = x := by simpa using h
    simp [encSp]
  | y :: r, k + 1, x, h => by
    have := enc_get (L := r) (k := k) (x := x) (by simpa using h)
    rw [List.flatMap_cons, show (k + 1) * 2 = k * 2 + 2 by omega]
    simpa [encSp] using this
theorem enc_one (L : List ByteArray) : ∀ u ∈ L.flatMap encSp, u.oneCell' = true := by
  intro u hu
  obtain ⟨x, _, h⟩ := List.mem_flatMap.1 hu
  simp [encSp] at h
  rcases h with rfl | rfl <;> rfl
theorem enc_take {L : List ByteArray} {k : Nat} {x : ByteArray} (h : L[k]? = some x) : (L.take k).flatMap encSp ++ encSp x = (L.take (k + 1)).flatMap encSp := by
  rw [List.take_add_one, h, List.flatMap_append]
  simp
/-- A row of runs of one's own: the slice, its block, its cells. -/
theorem own_two {w : World} {base : Nat} {e : TypeId} {v : Value} {n : Nat} {xs : List Value} (h : w.ownsRow base e 2 v n xs) (hn : 1 ≤ n) : ∃ g cap, v = .slice (some ⟨g, 0, none⟩) n cap ∧ base ≤ g ∧ g < w.heap.size ∧ n ≤ cap ∧ ∀ j u, xs[j]? = some u → w.cell? ⟨g, 0 + j, none⟩ = some u := by
  have hc := fun g (hg : v.ownBlock = some g) => h.cells (g := g) hg
  rcases h.2 with ⟨rfl, h0⟩ | ⟨g, cap, cur, rfl, hb, hgg, hcap, _⟩
  · omega
  · exact ⟨g, cap, rfl, hb, in_heap hgg, hcap, fun j u hu => by
      have := hc g rfl j u hu
      cases j with
      | zero => simpa [Addr.add] using this
      | succ j => simpa [Addr.add] using this⟩
theorem info_span : (Tryz.prog.info? 51).map (fun i => (i.zero, i.size, i.bytes)) = some (some (.agg #[.string ⟨#[]⟩, .string ⟨#[]⟩]), 2, 32) := by kernel_rfl
end Go.Proofs.YtoapfldmkpobmaaGreatDoor
