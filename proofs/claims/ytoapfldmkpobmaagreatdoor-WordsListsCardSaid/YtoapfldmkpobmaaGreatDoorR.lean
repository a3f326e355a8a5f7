/- Layer 1: the iterator's contract. -/
import Derived.Test.YtoapfldmkpobmaaGreatDoorQ
namespace Go.Proofs.YtoapfldmkpobmaaGreatDoor
open Go.RowKit Go.Shelf
attribute [local go_sem] Oper.semAt_some
def muA (l : Nat) (a : Act) (_ : World) : Nat := muI l a
theorem iter_seq {A B Bn n : Nat} {Own : World → Nat → Prop} {w : World} {s : ByteArray} (h2 : 2 ≤ n) (hO : RX.OwnB B Own) (hA : A ≤ B) (hL : 4 < A ∧ 2 < A ∧ 0 < A ∧ 3 < A)
    (hlw : LW w) (hs : s.size ≤ 100000000000) (hBn : w.cell? ⟨Bn, 0, none⟩ = some (.string s)) (hBl : Bn < w.heap.size) :
    RX.SeqX Fence.wide n Tryz.prog 40 #[.pointer (some ⟨Bn, 0, none⟩)] encI A B Own (fun xs => xs = fAll s.data.toList) (fun pre => pre <+: fAll s.data.toList) (fAll s.data.toList).length w := by
  intro lp J Jx W hW hB hO0 hJ hJx hY h0
  have H : ItH A B Own J Jx W.heap.size lp s.data.toList n := ⟨hO, hA, hL, hJ, hY⟩
  have hlW : LW W := hlw.below hW
  have hcW : W.cell? ⟨Bn, 0, none⟩ = some (.string s) := (hW.cell (p := ⟨Bn, 0, none⟩) hBl).trans hBn
  have hsz := hW.size
  refine callsIn_of_wp (c := .scope itCode) Tryz.func40 (by kernel_rfl) trivial ?_ rfl
  refine wpIn_mono (Q := ItQ J Jx s.data.toList) ?_ ?_
  rotate_left
  · rintro e a W' he
    cases e with
    | ret => exact bodyPost_ret (results_none rfl _ _ _) he.1 ⟨⟨_, rfl⟩, he.2.imp (fun h => ⟨_, rfl, h⟩) (fun h => h)⟩
    | _ => exact he.elim
  simp only [Tryz.ntmps40, List.size_toArray, List.length_cons, List.length_nil, Nat.reduceAdd, Nat.reduceSub, Array.replicate_succ, Array.replicate_zero, List.push_toArray, List.append_toArray, List.nil_append, List.cons_append]
  refine wpIn_wide.2 (wp_scope_labels (ItJ A B Own J W.heap.size lp Bn s.data.toList) muA ?_ ?_ ?_)
  · rintro l a w' ⟨t2, nn, r, g, pre, ss, qq, rfl, hS, hall, hr, hl⟩
    exact ⟨_, it_find l (by rcases hl with h | ⟨h, _⟩ | ⟨h, _⟩ <;> omega)⟩
  · have hb1 : Below W.heap.size W (W.alloc (.cells #[.string ⟨#[]⟩, .bool false] 39)) := (Below.refl _ W).alloc (Nat.le_refl _) _
    have hS : ItS A B Own J W.heap.size [] ⟨#[]⟩ false (W.alloc (.cells #[.string ⟨#[]⟩, .bool false] 39)) :=
      ⟨hJ _ _ _ none h0 (grown_of_below hb1) (fun r e => by cases e), hlW.below hb1, fun o => by have := hO0 _ (hO _ W _ (fun j hj => (hb1.block j (by omega)).symm) o); omega, World.alloc_heap_new _ _, hB, by simp⟩
    have hc : (W.alloc (.cells #[.string ⟨#[]⟩, .bool false] 39)).cell? ⟨Bn, 0, none⟩ = some (.string s) := (hb1.cell (p := ⟨Bn, 0, none⟩) (show Bn < W.heap.size by omega)).trans hcW
    have T1 : ∀ a W', ItJ A B Own J W.heap.size lp Bn s.data.toList 1 a W' → (tailAt 1 itCode).wpIn Fence.wide n Tryz.prog (jumpsQ (ItJ A B Own J W.heap.size lp Bn s.data.toList) (ItQ J Jx s.data.toList)) a W' :=
      fun a W' h => wpIn_mono (it_tail1 (M := 3 * szI a + 2) H h2 h (by omega)) (fun e a W h => by
        cases e with
        | goto l => exact h.1
        | _ => exact h)
    refine (wpIn_wide (n := n)).1 ?_
    rw [it_cut1]
    generalize tailAt 1 itCode = k1 at T1 ⊢
    have HT := Lib.hid T1
    have HS := Lib.hid hS
    have hJ1 := Lib.hid hS.j
    clear T1 hS hb1 hcW h0 hJ hJx hY hlW H
    simp only [itCode, scopeOf, Tryz.f40]
    simp only [Nat.reduceBEq, cutAt, isLab, cond_true, cond_false]
    by_cases hp : s.size = 0
    · have hN := toList_nil s hp
      have hf : fAll s.data.toList = [] := by rw [eq_nil_zero s hp]; rfl
      have HF := Lib.hid hf
      clear hf
      gi_wp2
      exact ⟨rfl, .inl (by rw [HF.out]; exact hJ1.out)⟩
    · have hN := ne_nil_pos s (by omega)
      have hE := isEmpty_pos s (by omega)
      have hf : fAll s.data.toList = [] ++ fGo s.data.toList := by
        unfold fAll fGo
        rw [if_neg (by rw [← toList_data]; exact hN)]; rfl
      have HF := Lib.hid hf
      clear hf
      gi_wp2
      refine wpIn_label ?_
      gi_wp2
      exact HT.out _ _ (ItJ.mk _ 0 s rfl HS.out HF.out hs (.inl rfl))
  · intro l rest a w' hf hj
    have hl : l = 0 ∨ l = 1 ∨ l = 2 := by
      obtain ⟨_, _, _, _, _, _, _, _, _, _, _, hl⟩ := hj
      rcases hl with h | ⟨h, _⟩ | ⟨h, _⟩ <;> omega
    rw [it_find l hl] at hf
    obtain rfl := Option.some.inj hf
    refine (wpIn_wide (n := n)).1 (wpIn_seq (wpIn_skip ?_))
    rcases hl with rfl | rfl | rfl
    · exact it_tail0 H h2 hj (by show 3 * szI a ≤ 3 * szI a + 1; omega)
    · exact it_tail1 H h2 hj (by show 3 * szI a + 1 < 3 * szI a + 2; omega)
    · exact it_tail2 H h2 hj (by show 3 * szI a ≤ 3 * szI a + 0; omega)
end Go.Proofs.YtoapfldmkpobmaaGreatDoor
