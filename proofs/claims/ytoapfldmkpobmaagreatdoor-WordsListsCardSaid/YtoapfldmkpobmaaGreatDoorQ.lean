/- Layer 1: the iterator over the fields of a line: the other ways, and its contract. -/
import Derived.Test.YtoapfldmkpobmaaGreatDoorP
import Derived.Lib.PathFns
namespace Go.Proofs.YtoapfldmkpobmaaGreatDoor
open Go.RowKit Go.Shelf
attribute [local go_sem] Oper.semAt_some
theorem it_cut02 : tailAt 0 itCode = cutAt 2 (tailAt 2 itCode) (tailAt 0 itCode) := by kernel_rfl
theorem it_cut10 : tailAt 1 itCode = cutAt 0 (tailAt 0 itCode) (tailAt 1 itCode) := by kernel_rfl
theorem it_cut1 : itCode = cutAt 1 (tailAt 1 itCode) itCode := by kernel_rfl
theorem grown_cell (W : World) (a : Addr) (v : Value) : W.grownBy (W.setCell a v) (some a.block) :=
  ⟨rfl, rfl, rfl, by simp [World.setCell], fun k _ hk => by
    simp only [World.setCell, Array.getElem?_modify]
    rw [if_neg (fun e => hk (by rw [e]))]⟩
theorem ItS.store0 {A B Bf : Nat} {Own : World → Nat → Prop} {J : List Item → World → Prop} {pre : List Item} {ss : ByteArray} {qq : Bool} {W : World}
    (h : ItS A B Own J Bf pre ss qq W) (hJ : RX.AbX Bf Own J) (hO : RX.OwnB B Own) (hA : A ≤ B) (hL : 4 < A ∧ 2 < A ∧ 0 < A ∧ 3 < A) (s' : ByteArray) :
    ItS A B Own J Bf pre s' qq (W.setCell ⟨Bf, 0, none⟩ (.string s')) :=
  h.turn hJ hO hA hL s' qq (grown_cell _ _ _) (by simp [World.setCell, Array.getElem?_modify, h.blk])
theorem ItS.store1 {A B Bf : Nat} {Own : World → Nat → Prop} {J : List Item → World → Prop} {pre : List Item} {ss : ByteArray} {qq : Bool} {W : World}
    (h : ItS A B Own J Bf pre ss qq W) (hJ : RX.AbX Bf Own J) (hO : RX.OwnB B Own) (hA : A ≤ B) (hL : 4 < A ∧ 2 < A ∧ 0 < A ∧ 3 < A) (q' : Bool) :
    ItS A B Own J Bf pre ss q' (W.setCell ⟨Bf, 1, none⟩ (.bool q')) :=
  h.turn hJ hO hA hL ss q' (grown_cell _ _ _) (by simp [World.setCell, Array.getElem?_modify, h.blk])
theorem fQuoted (l : List UInt8) (h : l.head? = some 34) : fStr l = qT l ∧ fQuo l = true ∧ fLen l = qN l := by
  unfold fStr fQuo fLen; rw [if_pos h, if_pos h, h]; exact ⟨rfl, rfl, rfl⟩
theorem fBare (l : List UInt8) (h : ¬ l.head? = some 34) : fStr l = l.take (bareN l) ∧ fQuo l = false ∧ fLen l = bareN l := by
  unfold fStr fQuo fLen; rw [if_neg h, if_neg h]; exact ⟨rfl, by simp [h], rfl⟩
theorem it_tail0 {A B Bf lp Bn n M : Nat} {Own : World → Nat → Prop} {J Jx : List Item → World → Prop} {l0 : List UInt8} (H : ItH A B Own J Jx Bf lp l0 n) (h2 : 2 ≤ n) {a : Act} {W : World}
    (hI : ItJ A B Own J Bf lp Bn l0 0 a W) (hM : 3 * szI a ≤ M) :
    (tailAt 0 itCode).wpIn Fence.wide n Tryz.prog (jumpsQ (fun l' a' w' => ItJ A B Own J Bf lp Bn l0 l' a' w' ∧ muI l' a' < M) (ItQ J Jx l0)) a W := by
  obtain ⟨t2, nn, r, g, pre, ss, qq, rfl, hS, hall, hr, hl⟩ := hI
  obtain hq : r.data.toList.head? = some 34 := by
    rcases hl with h | ⟨_, h⟩ | ⟨h, _⟩
    · cases h
    · exact h
    · cases h
  obtain ⟨e1, e2, e3⟩ := fQuoted _ hq
  have hM : 3 * r.size ≤ M := hM
  have T2 : ∀ a W, ItJ A B Own J Bf lp Bn l0 2 a W → 3 * szI a ≤ M → (tailAt 2 itCode).wpIn Fence.wide n Tryz.prog (jumpsQ (fun l' a' w' => ItJ A B Own J Bf lp Bn l0 l' a' w' ∧ muI l' a' < M) (ItQ J Jx l0)) a W := fun a W h h' => it_tail2 H h2 h h'
  rw [it_cut02]
  generalize tailAt 2 itCode = k2 at T2 ⊢
  have h1 : 1 ≤ n := by omega
  have HT := Lib.hid T2
  have HC := Lib.hid ((callsIn_wide (n := n - 1)).2 (qprefix_any r W hS.lw hr))
  have HS0 := Lib.hid hS
  have HA := Lib.hid hall
  have HE1 := Lib.hid e1
  have HE2 := Lib.hid e2
  have HE3 := Lib.hid e3
  have HQ := Lib.hid hq
  obtain ⟨T, hT⟩ : ∃ T, T = qT r.data.toList := ⟨_, rfl⟩
  obtain ⟨N, hN⟩ : ∃ N, N = qN r.data.toList := ⟨_, rfl⟩
  unfold QPost at HC
  rw [← hT, ← hN] at HC
  have HTT := Lib.hid hT
  have HNN := Lib.hid hN
  clear T2 hall e1 e2 e3 hq hl hT hN
  simp only [tailAt, itCode, scopeOf, Tryz.f40, actI]
  simp only [Nat.reduceBEq, cutAt, isLab, cond_true, cond_false, if_false, if_true, Bool.false_eq_true]
  gi_wp2_with (refine ⟨trivial, ?_⟩; gi_at_call 28; refine HC.out.mono ?_; rintro e w' ⟨rfl, hb⟩; have hS := Lib.hid (HS0.out.below H.hJ H.hO hb); obtain ⟨c0, c1, c2, c3⟩ := hS.out.cells)
  refine wpIn_label ?_
  gi_wp2
  refine HT.out _ _ (ItJ.mk t2 N r rfl ((hS.out.store0 H.hJ H.hO H.hA H.hL ⟨T.toArray⟩).store1 H.hJ H.hO H.hA H.hL true) HA.out hr (.inr (.inr ⟨rfl, ?_, ?_, ?_⟩))) hM
  · rw [HE3.out, HNN.out]
  · rw [HE1.out, HTT.out]
  · rw [HE2.out]
theorem it_tail1 {A B Bf lp Bn n M : Nat} {Own : World → Nat → Prop} {J Jx : List Item → World → Prop} {l0 : List UInt8} (H : ItH A B Own J Jx Bf lp l0 n) (h2 : 2 ≤ n) {a : Act} {W : World}
    (hI : ItJ A B Own J Bf lp Bn l0 1 a W) (hM : 3 * szI a + 1 < M) :
    (tailAt 1 itCode).wpIn Fence.wide n Tryz.prog (jumpsQ (fun l' a' w' => ItJ A B Own J Bf lp Bn l0 l' a' w' ∧ muI l' a' < M) (ItQ J Jx l0)) a W := by
  obtain ⟨t2, nn, r, g, pre, ss, qq, rfl, hS, hall, hr, hl⟩ := hI
  have hM : 3 * r.size + 1 < M := hM
  rw [it_cut10]
  generalize tailAt 0 itCode = k0
  have h1 : 1 ≤ n := by omega
  have HS0 := Lib.hid hS
  have HA := Lib.hid hall
  clear hall hl
  simp only [tailAt, itCode, scopeOf, Tryz.f40, actI]
  simp only [Nat.reduceBEq, cutAt, isLab, cond_true, cond_false, if_false, if_true, Bool.false_eq_true]
  by_cases hh : r.data.toList.head? = some 34
  · have hp : 0 < r.size := by
      rcases Nat.eq_zero_or_pos r.size with h | h
      · rw [eq_nil_zero r h] at hh; cases hh
      · exact h
    have h0 : r[0] = 34 := by rw [data_cons r hp] at hh; simpa using hh
    have hN := ne_nil_pos r hp
    have hE := isEmpty_pos r hp
    have hq : ((r[0].toNat : Int) == 34) = true := by rw [h0]; rfl
    have HH := Lib.hid hh
    clear hh h0
    gi_wp2
    refine wpIn_goto ?_
    gi_wp2
    exact ⟨ItJ.mk t2 nn r rfl HS0.out HA.out hr (.inr (.inl ⟨rfl, HH.out⟩)), hM⟩
  · obtain ⟨e1, e2, e3⟩ := fBare _ hh
    have HB := Lib.hid ((callsIn_wide (n := n - 1)).2 (barePrefix_any r W hr))
    obtain ⟨k, hk⟩ : ∃ k, k = bareN r.data.toList := ⟨_, rfl⟩
    have hkl : k ≤ r.size := by rw [hk]; have := bareN_le r.data.toList; rwa [length_data] at this
    rw [← hk] at HB e3 e1
    have hz : (r.extract 0 k).size ≤ 100000000000 := by simp; omega
    have HC := Lib.hid ((callsIn_wide (n := n - 1)).2 (clone_any (r.extract 0 k) W hz))
    have HE1 := Lib.hid e1
    have HE2 := Lib.hid e2
    have HE3 := Lib.hid e3
    have fin : ∀ w', Below W.heap.size W w' → ItS A B Own J Bf pre (r.extract 0 k) false ((w'.setCell ⟨Bf, 0, none⟩ (.string (r.extract 0 k))).setCell ⟨Bf, 1, none⟩ (.bool false)) :=
      fun w' hb => (((HS0.out.below H.hJ H.hO hb).store0 H.hJ H.hO H.hA H.hL _).store1 H.hJ H.hO H.hA H.hL false)
    have HF := Lib.hid fin
    have go : ∀ a' w', Below W.heap.size W w' → a' = actI (.func (.yield lp) #[] #[]) (.pointer (some ⟨Bn, 0, none⟩)) t2 (.pointer (some ⟨Bf, 0, none⟩)) k r (fun i => a'.tmps.getD i undef) →
        ItJ A B Own J Bf lp Bn l0 2 a' ((w'.setCell ⟨Bf, 0, none⟩ (.string (r.extract 0 k))).setCell ⟨Bf, 1, none⟩ (.bool false)) := fun a' w' hb ha =>
      ItJ.mk t2 k r ha (HF.out w' hb) HA.out hr (.inr (.inr ⟨rfl, by rw [HE3.out], by rw [HE1.out, Lib.extract_upto], by rw [HE2.out]⟩))
    have HG := Lib.hid go
    clear hz fin go e1 e2 e3 hk
    by_cases hp : r.size = 0
    · have hN := toList_nil r hp
      gi_wp2_with (first | (refine ⟨trivial, ?_⟩; gi_at_call 41; refine HB.out.mono ?_; rintro e w' ⟨rfl, rfl⟩) | (refine ⟨trivial, ?_⟩; gi_at_call 42; refine HC.out.mono ?_; rintro e w' ⟨rfl, hb⟩; have hS := Lib.hid (HS0.out.below H.hJ H.hO hb); obtain ⟨c0, c1, c2, c3⟩ := hS.out.cells))
      refine wpIn_goto ?_
      gi_wp2
      exact ⟨HG.out _ _ hb rfl, by show 3 * r.size + 0 < M; omega⟩
    · have hN := ne_nil_pos r (by omega)
      have hE := isEmpty_pos r (by omega)
      have hq : ((r[0].toNat : Int) == 34) = false := beq_eq_false_iff_ne.2 (fun e => hh (by rw [data_cons r (by omega), u8_eq_of_int _ 34 (by decide) e]; rfl))
      clear hh
      gi_wp2_with (first | (refine ⟨trivial, ?_⟩; gi_at_call 41; refine HB.out.mono ?_; rintro e w' ⟨rfl, rfl⟩) | (refine ⟨trivial, ?_⟩; gi_at_call 42; refine HC.out.mono ?_; rintro e w' ⟨rfl, hb⟩; have hS := Lib.hid (HS0.out.below H.hJ H.hO hb); obtain ⟨c0, c1, c2, c3⟩ := hS.out.cells))
      refine wpIn_goto ?_
      gi_wp2
      exact ⟨HG.out _ _ hb rfl, by show 3 * r.size + 0 < M; omega⟩
end Go.Proofs.YtoapfldmkpobmaaGreatDoor
