/- append of a made row of zeros, to an own row (an own law; the translation hands the builtin a number). -/
import Derived.Test.YtjckkohmgalabaaZs
import Derived.Lib.AppendZerosOnto
namespace Go.Proofs.Ytjckkohmgalabaa
open Go.RowKit
theorem zeroC (k : Nat) : (Builtin.zeroCells #[.int .u64 0] k).toList = List.replicate k (.int .u64 0) := by
  unfold Builtin.zeroCells
  apply List.ext_getElem
  · simp
  · intro i h1 h2
    simp [Nat.mod_one]
theorem int_under : ∃ k, Try.prog.underlying 3 = some (.int k) := ⟨_, Try.underlying3⟩
theorem run_zeros (w : World) (b0 : Nat) (ty : TypeId) (v : Value) (n : Nat) (xs : List Value) (k : Nat) (hown : w.ownsRow b0 22 1 v n xs) (hb : n + k ≤ 100000) (hb0 : b0 ≤ w.heap.size) :
    ∃ v' w', (Builtin.append_ #[28, 3] ty #[v, .int .i64 (k : Int)]).run Try.prog w = .ok v' w' ∧ w'.ownsRow b0 22 1 v' (n + k) (xs ++ List.replicate k (.int .u64 0)) ∧ w.grownBy w' v.ownBlock ∧ (v'.ownBlock = v.ownBlock ∨ v'.ownBlock = some w.heap.size) := by
  obtain ⟨i0, hi, hz0, hz1, hz2⟩ := info_parts u64_info
  have ht := Try.underlying28
  have htn := Try.underlying3
  have hlen : (xs ++ List.replicate k (Value.int .u64 0)).length = (n + k) * 1 := by rw [List.length_append, hown.1, List.length_replicate]; omega
  have zc : (Value.int .u64 0).cells = #[.int .u64 0] := rfl
  have grown : ∀ (old : Nat) (row : Option Nat),
      (w.drew.alloc (.cells (xs.toArray ++ Builtin.zeroCells #[.int .u64 0] k ++ Builtin.zeroCells #[.int .u64 0] (grownCap w (n + k) old 22 - (n + k))) 22)).ownsRow b0 22 1
        (.slice (some ⟨w.heap.size, 0, none⟩) (n + k) (grownCap w (n + k) old 22)) (n + k) (xs ++ List.replicate k (.int .u64 0)) ∧
      w.grownBy (w.drew.alloc (.cells (xs.toArray ++ Builtin.zeroCells #[.int .u64 0] k ++ Builtin.zeroCells #[.int .u64 0] (grownCap w (n + k) old 22 - (n + k))) 22)) row := by
    intro old row
    have hge := grownCap_ge w (n + k) old 22
    have hcm : grownCap w (n + k) old 22 ≤ maxLen := grownCap_le_maxLen w (n + k) old _ (by simp only [maxLen]; omega)
    refine ⟨⟨hlen, .inr ⟨w.heap.size, _, _, rfl, hb0, heap_alloc_new w.drew _, hge, hcm, ?_, ?_⟩⟩, ⟨rfl, rfl, rfl, by simp, fun j hj _ => Below.heap_alloc w.drew _ j hj⟩⟩
    · simp only [Array.size_append, List.size_toArray, size_zeroCells, hown.1]
      simp
      omega
    · simp only [Array.toList_append, zeroC]
      rw [← hlen]
      exact List.take_left
  rcases hown.2 with ⟨rfl, rfl⟩ | ⟨g, cap, cur, rfl, hbg, hg, hnc, hcm, hcs, htake⟩
  · have hx : xs = [] := List.eq_nil_of_length_eq_zero (by simpa using hown.1)
    subst hx
    by_cases hk : k = 0
    · subst hk
      refine ⟨.slice none 0 0, w, ?_, World.ownsRow_nil w b0 _ 1, ⟨rfl, rfl, rfl, Nat.le_refl _, fun _ _ _ => rfl⟩, .inl rfl⟩
      have hw : IntKind.i64.wrap (0 : Int) = 0 := by decide
      simp [Builtin.append_, run_underlying ht, run_underlying htn, sizeOf, typeInfo, zeroValue, hi, asInt, asIntOf, hw]
    · have hr := Lib.run_append_nil_zeros (P := Try.prog) w 28 3 ty 22 i0 (.int .u64 0) .i64 .i64 ht htn hi hz0 k (by omega) (by omega) (by omega) (by rw [hz2]; omega)
      have hgr := grown 0 (Value.ownBlock (.slice none 0 0))
      rw [zc] at hr
      simp only [Nat.zero_add, List.nil_append, Array.empty_append] at hgr ⊢
      exact ⟨_, _, hr, hgr.1, hgr.2, .inr rfl⟩
  · by_cases hroom : n + k ≤ cap
    · by_cases hk : k = 0
      · subst hk
        refine ⟨.slice (some ⟨g, 0, none⟩) n cap, w, ?_, by simpa using hown, ⟨rfl, rfl, rfl, Nat.le_refl _, fun _ _ _ => rfl⟩, .inl rfl⟩
        have hw : IntKind.i64.wrap (0 : Int) = 0 := by decide
        have hroom' : n ≤ cap := by omega
        simp [Builtin.append_, run_underlying ht, run_underlying htn, sizeOf, typeInfo, zeroValue, hi, asInt, asIntOf, hw, hroom', storeCells]
      · have hfit : n + k ≤ cur.size := by rw [hcs]; omega
        have hst := run_storeCells_at Try.prog g n 22 (List.replicate k (.int .u64 0)) 0 cur w hg (by rw [List.length_replicate]; omega) (fun u hu => by rw [(List.mem_replicate.1 hu).2]; rfl)
        rw [Nat.add_zero, List.length_replicate] at hst
        refine ⟨.slice (some ⟨g, 0, none⟩) (n + k) cap, _, ?_, ⟨hlen, .inr ⟨g, cap, _, rfl, hbg, setRow_heap w g cur (cur.toList.take n ++ List.replicate k (Value.int .u64 0) ++ cur.toList.drop (n + k)).toArray _ _ hg, hroom, hcm, ?_, ?_⟩⟩, ⟨rfl, rfl, rfl, by simp, fun j _ hj => setRow_other w g j _ (fun e => hj (by simp [Value.ownBlock, e]))⟩, .inl rfl⟩
        · have hw : IntKind.i64.wrap (k : Int) = k := by rw [IntKind.wrap_i64]; omega
          have hneg : ¬ ((k : Int) < 0) := by omega
          have h48i : ¬ (281474976710656 < (k : Int) * (8 : Int)) := by omega
          simp [Builtin.append_, run_underlying ht, run_underlying htn, sizeOf, typeInfo, zeroValue, hi, hz0, hz1, hz2, asInt, asIntOf, hw, hneg, h48i, hroom, hk, zc, zeroC, Addr.add_lit, hst]
        · simp only [List.size_toArray, List.length_append, List.length_take, List.length_drop, Array.length_toList, List.length_replicate]
          omega
        · have htk : cur.toList.take n = xs := by have h := htake; rw [Nat.mul_one] at h; exact h
          rw [← hlen, htk]
          exact List.take_left
    · have holds : ∀ j u, xs[j]? = some u → w.drew.cell? ((⟨g, 0, none⟩ : Addr).add j) = some u := fun j u h => (hown.cells (g := g) rfl j u h)
      have hx1 : xs.length = n * i0.size := by rw [hz1]; exact hown.1
      have hold := run_firstCells_some (P := Try.prog) w.drew i0.size n ⟨g, 0, none⟩ n cap xs hx1 holds
      have hr := Lib.run_append_grow_zeros (P := Try.prog) w 28 3 ty 22 i0 (.int .u64 0) .i64 .i64 ht htn hi hz0 (some ⟨g, 0, none⟩) n cap xs hold k (by omega) (by omega) (by omega) (by omega) (by rw [hz2]; omega) (by rw [hz2]; have := growslice_fits (need := n + k) (old := cap) (bytes := 8) (by omega) (by omega); omega)
      rw [zc] at hr
      have hgr := grown cap (Value.ownBlock (.slice (some ⟨g, 0, none⟩) n cap))
      exact ⟨_, _, hr, hgr.1, hgr.2, .inr rfl⟩
end Go.Proofs.Ytjckkohmgalabaa
