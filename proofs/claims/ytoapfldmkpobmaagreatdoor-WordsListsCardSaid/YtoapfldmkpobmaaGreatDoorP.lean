/- Layer 1: the iterator over the fields of a line, walked. -/
import Derived.Test.YtoapfldmkpobmaaGreatDoorO
namespace Go.Proofs.YtoapfldmkpobmaaGreatDoor
open Go.RowKit Go.Shelf
attribute [local go_sem] Oper.semAt_some
/-- The code behind a label of a scope; and the code with that part put aside. -/
def tailAt (l : Nat) : Code → Code
  | .seq a b => match a with
    | .label l' => if l' == l then b else tailAt l b
    | _ => tailAt l b
  | c => c
def isLab (l : Nat) (c : Code) : Bool := match c with
  | .label l' => l' == l
  | _ => false
def cutAt (l : Nat) (k : Code) : Code → Code
  | .seq a b => bif isLab l a then .seq a k else .seq a (cutAt l k b)
  | c => c
def scopeOf : Option Code → Code
  | some (.scope c) => c
  | _ => .skip
noncomputable def itCode : Code := scopeOf Tryz.f40.body
theorem it_find (l : Nat) (h : l = 0 ∨ l = 1 ∨ l = 2) : findLabel itCode l = some (.seq .skip (tailAt l itCode)) := by
  rcases h with rfl | rfl | rfl <;> kernel_rfl
theorem getD_at (s : ByteArray) (k : Nat) (h : k < s.size) : s.data.toList.getD k 0 = s[k] := by
  rw [List.getD_eq_getElem?_getD, data_get s k h]; rfl
def errI : Item := ⟨[], false, false⟩
def itemOf (l : List UInt8) : Item := ⟨fStr l, fQuo l, true⟩
structure ItH (A B : Nat) (Own : World → Nat → Prop) (J Jx : List Item → World → Prop) (Bf lp : Nat) (l0 : List UInt8) (n : Nat) : Prop where
  hO : RX.OwnB B Own
  hA : A ≤ B
  hL : 4 < A ∧ 2 < A ∧ 0 < A ∧ 3 < A
  hJ : RX.AbX Bf Own J
  hY : ∀ pre x W1, J pre W1 → pre.length < (fAll l0).length → YieldAt Fence.wide (n - 1) Tryz.prog lp (encI x) W1 fun e W' =>
      (e = .returned (.bool true) ∧ J (pre ++ [x]) W' ∧ RX.KpX A B Own W1 W') ∨ (e = .returned (.bool false) ∧ Jx (pre ++ [x]) W')
def ItQ (J Jx : List Item → World → Prop) (l0 : List UInt8) : Exit → Act → World → Prop
  | .ret, a, W => a.defers = [] ∧ (J (fAll l0) W ∨ ∃ pre, pre <+: fAll l0 ∧ Jx pre W)
  | _, _, _ => False
def szV : Option Value → Nat
  | some (.string s) => s.size
  | _ => 0
def szI (a : Act) : Nat := szV a.tmps[5]?
def muI (l : Nat) (a : Act) : Nat := 3 * szI a + (if l = 1 then 2 else if l = 0 then 1 else 0)
/-- What holds at a jump. -/
def ItJ (A B : Nat) (Own : World → Nat → Prop) (J : List Item → World → Prop) (Bf lp Bn : Nat) (l0 : List UInt8) (l : Nat) (a : Act) (W : World) : Prop :=
  ∃ (t2 : Value) (n : Int) (r : ByteArray) (g : Nat → Value) (pre : List Item) (ss : ByteArray) (qq : Bool),
    a = actI (.func (.yield lp) #[] #[]) (.pointer (some ⟨Bn, 0, none⟩)) t2 (.pointer (some ⟨Bf, 0, none⟩)) n r g ∧ ItS A B Own J Bf pre ss qq W ∧ fAll l0 = pre ++ fGo r.data.toList ∧ r.size ≤ 100000000000 ∧
    (l = 1 ∨ (l = 0 ∧ r.data.toList.head? = some 34) ∨ (l = 2 ∧ n = (fLen r.data.toList : Nat) ∧ ss = ⟨(fStr r.data.toList).toArray⟩ ∧ qq = fQuo r.data.toList))
theorem ItJ.mk {A B Bf lp Bn : Nat} {Own : World → Nat → Prop} {J : List Item → World → Prop} {l0 : List UInt8} {l : Nat} {a : Act} {W : World} (t2 : Value) (n : Int) (r : ByteArray) {pre : List Item} {ss : ByteArray} {qq : Bool}
    (h : a = actI (.func (.yield lp) #[] #[]) (.pointer (some ⟨Bn, 0, none⟩)) t2 (.pointer (some ⟨Bf, 0, none⟩)) n r (fun i => a.tmps.getD i undef)) (hS : ItS A B Own J Bf pre ss qq W) (hall : fAll l0 = pre ++ fGo r.data.toList) (hr : r.size ≤ 100000000000)
    (hl : l = 1 ∨ (l = 0 ∧ r.data.toList.head? = some 34) ∨ (l = 2 ∧ n = (fLen r.data.toList : Nat) ∧ ss = ⟨(fStr r.data.toList).toArray⟩ ∧ qq = fQuo r.data.toList)) : ItJ A B Own J Bf lp Bn l0 l a W :=
  ⟨t2, n, r, _, pre, ss, qq, h, hS, hall, hr, hl⟩
theorem it_tail2 {A B Bf lp Bn n M : Nat} {Own : World → Nat → Prop} {J Jx : List Item → World → Prop} {l0 : List UInt8} (H : ItH A B Own J Jx Bf lp l0 n) (h2 : 2 ≤ n) {a : Act} {W : World}
    (hI : ItJ A B Own J Bf lp Bn l0 2 a W) (hM : 3 * szI a ≤ M) :
    (tailAt 2 itCode).wpIn Fence.wide n Tryz.prog (jumpsQ (fun l' a' w' => ItJ A B Own J Bf lp Bn l0 l' a' w' ∧ muI l' a' < M) (ItQ J Jx l0)) a W := by
  obtain ⟨t2, nn, r, g, pre, ss, qq, rfl, hS, hall, hr, hl⟩ := hI
  obtain ⟨rfl, rfl, rfl⟩ : nn = (fLen r.data.toList : Nat) ∧ ss = ⟨(fStr r.data.toList).toArray⟩ ∧ qq = fQuo r.data.toList := by
    rcases hl with h | ⟨h, _⟩ | ⟨_, h⟩
    · cases h
    · cases h
    · exact h
  have hM : 3 * r.size ≤ M := hM
  have hle : fLen r.data.toList ≤ r.size := by have := fLen_le r.data.toList; rwa [length_data] at this
  have hpl : pre.length < (fAll l0).length := by rw [hall, List.length_append]; have := fGo_pos r.data.toList; omega
  obtain ⟨c0, c1, c2, c3⟩ := hS.cells
  simp only [tailAt, itCode, scopeOf, Tryz.f40, actI]
  simp only [Nat.reduceBEq, if_false, if_true, Bool.false_eq_true]
  have hYn := H.hY pre (itemOf r.data.toList) W hS.j hpl
  have hYe := H.hY pre errI W hS.j hpl
  have hpre : pre ++ fGo r.data.toList = fAll l0 := hall.symm
  have hg := fGo_eq r.data.toList
  obtain ⟨k, hk⟩ : ∃ k, k = fLen r.data.toList := ⟨_, rfl⟩
  obtain ⟨S, hSS⟩ : ∃ S : ByteArray, S = ⟨(fStr r.data.toList).toArray⟩ := ⟨_, rfl⟩
  obtain ⟨q, hq⟩ : ∃ q, q = fQuo r.data.toList := ⟨_, rfl⟩
  obtain ⟨fnN, tmpsN, assignN, bodyN, hyN, hRN⟩ := hYn
  obtain ⟨fnE, tmpsE, assignE, bodyE, hyE, hRE⟩ := hYe
  simp only [encI, itemOf] at hyN
  simp only [encI, errI] at hyE
  simp only [← hSS, ← hq] at hyN c0 c1 hS
  simp only [← hk] at hle
  simp only [← hk]
  have HG := Lib.hid hg
  have HP := Lib.hid hpre
  have HK := Lib.hid hk
  have HS := Lib.hid hSS
  have HQ := Lib.hid hq
  have HA := Lib.hid hall
  clear hg hpre hk hSS hq hall hl c2 c3
  have leaveE : fBad r.data.toList = true → ∀ (e : Ending) (W' : World), ((e = .returned (.bool true) ∧ J (pre ++ [errI]) W' ∧ RX.KpX A B Own W W') ∨ (e = .returned (.bool false) ∧ Jx (pre ++ [errI]) W')) →
      (∃ b, e = .returned (.bool b)) ∧ (J (fAll l0) W' ∨ ∃ pre, pre <+: fAll l0 ∧ Jx pre W') := by
    intro hb e W' h
    have hg := HG.out
    rw [hb, if_pos rfl] at hg
    have hp := HP.out
    rw [hg] at hp
    rcases h with ⟨rfl, hj, _⟩ | ⟨rfl, hj⟩
    · exact ⟨⟨_, rfl⟩, .inl (hp ▸ hj)⟩
    · exact ⟨⟨_, rfl⟩, .inr ⟨_, by rw [← hp]; exact List.prefix_refl _, hj⟩⟩
  have LE := Lib.hid leaveE
  clear leaveE
  by_cases e0 : k = 0
  · have hz : ((k : Int) == 0) = true := by rw [e0]; rfl
    have hb : fBad r.data.toList = true := by unfold fBad; rw [← HK.out, e0]; rfl
    have HB := Lib.hid hb
    clear hb e0
    gi_wp2
    refine ⟨fun _ => by omega, hRE.mono fun e W' h => ?_⟩
    obtain ⟨⟨b, rfl⟩, hfin⟩ := LE.out HB.out e W' h
    gi_wp2
    exact ⟨rfl, hfin⟩
  have hz : ((k : Int) == 0) = false := beq_eq_false_iff_ne.2 (by omega)
  by_cases lt : k < r.size
  · have hlt : decide ((k : Int) < (r.size : Int)) = true := decide_eq_true (by omega)
    by_cases sp : r[k] = 32
    · have hb : fBad r.data.toList = false := by
        unfold fBad; rw [← HK.out, length_data, getD_at r k lt, sp]; simp; omega
      have hns : ((r[k].toNat : Int) != 32) = false := by rw [sp]; rfl
      have hg := HG.out
      rw [hb, if_neg (by decide), ← HK.out, if_neg (by rw [length_data]; omega)] at hg
      have hp := HP.out
      rw [hg] at hp
      have HG2 := Lib.hid hp
      clear hb sp hg hp LE HG HP
      gi_wp2
      refine ⟨fun _ => by omega, hRN.mono ?_⟩
      rintro e W' (⟨rfl, hj, hkp⟩ | ⟨rfl, hj⟩)
      · have hne : ((k : Int) == (r.size : Int)) = false := beq_eq_false_iff_ne.2 (by omega)
        gi_wp2
        refine wpIn_goto ?_
        gi_wp2
        refine ⟨ItJ.mk t2 k (r.extract (k + 1) r.size) rfl (hS.round H.hL hj hkp) ?_ ?_ (.inl rfl), ?_⟩
        · rw [ext_drop, ← HG2.out, List.append_assoc]; rfl
        · rw [ext_size _ _ (by omega)]; omega
        · show 3 * (r.extract (k + 1) r.size).size + 2 < M
          rw [ext_size _ _ (by omega)]; omega
      · gi_wp2
        exact ⟨rfl, .inr ⟨_, ⟨_, by rw [← HG2.out, List.append_assoc]; rfl⟩, hj⟩⟩
    · have hb : fBad r.data.toList = true := by
        unfold fBad; rw [← HK.out, length_data, getD_at r k lt]; simp [sp, lt]
      have hns : ((r[k].toNat : Int) != 32) = true := by rw [bne_iff_ne]; intro e; exact sp (u8_eq_of_int _ 32 (by decide) e)
      have HB := Lib.hid hb
      clear hb e0 sp
      gi_wp2
      refine ⟨fun _ => by omega, hRE.mono fun e W' h => ?_⟩
      obtain ⟨⟨b, rfl⟩, hfin⟩ := LE.out HB.out e W' h
      gi_wp2
      exact ⟨rfl, hfin⟩
  · have hlt : decide ((k : Int) < (r.size : Int)) = false := decide_eq_false (by omega)
    have hb : fBad r.data.toList = false := by
      unfold fBad; rw [← HK.out, length_data]; simp; omega
    have hg := HG.out
    rw [hb, if_neg (by decide), ← HK.out, if_pos (by rw [length_data]; omega)] at hg
    have hp := HP.out
    rw [hg] at hp
    have HG2 := Lib.hid hp
    clear hb hg hp LE HG HP
    gi_wp2
    refine ⟨fun _ => by omega, hRN.mono ?_⟩
    rintro e W' (⟨rfl, hj, hkp⟩ | ⟨rfl, hj⟩)
    · have hne : ((k : Int) == (r.size : Int)) = true := beq_iff_eq.2 (by omega)
      gi_wp2
      exact ⟨rfl, .inl (HG2.out ▸ hj)⟩
    · gi_wp2
      exact ⟨rfl, .inr ⟨_, by rw [← HG2.out]; exact List.prefix_refl _, hj⟩⟩
end Go.Proofs.YtoapfldmkpobmaaGreatDoor
