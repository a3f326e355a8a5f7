/- How often each step occurs: a map that the call makes. -/
import Derived.Test.YtihhgnjkmhdpmaaGreatDoorC
import Derived.Test.YtihhgnjkmhdpmaaGreatDoorM
import Derived.DeepKeys4
import Derived.Deep.RegionWith
namespace Go.Proofs.YtihhgnjkmhdpmaaGreatDoor
open Go.RowKit
theorem laidOut : laidOutB Tryz.prog = true := by kernel_rfl
theorem kwide : (match Tryz.prog.underlying 39 with | some (.array _ _) | some (.struct _) => true | _ => false) = true := by rw [Tryz.underlying39]
theorem krow : (39 : TypeId) < Tryz.prog.types.size := of_decide_eq_true (by kernel_rfl)
set_option maxRecDepth 100000 in
theorem klaw : WideMaps.KeyLaw Tryz.prog 39 := deep_law_laid laidOut (m := 2) (by omega) krow (by kernel_rfl) kwide
theorem ktype : Tryz.prog.keyType 39 = true := by kernel_rfl
theorem kcells : Tryz.prog.cellsOf 39 = 2 := by kernel_rfl
theorem kcells32 : Tryz.prog.cellsOf 21 = 1 := by kernel_rfl
theorem wf_i32 {a : Int} (h1 : -2147483648 ≤ a) (h2 : a ≤ 2147483647) : (Lit.int .i32 a).wf = true := by
  have e1 : IntKind.i32.min = -2147483648 := by decide
  have e2 : IntKind.i32.max = 2147483647 := by decide
  unfold Lit.wf
  simp [e1, e2]; omega
theorem kl_ex (x : Ev) (h : okE x) : ∃ kl, keyOf Tryz.prog 39 (evV x) = some kl := by
  obtain ⟨m, hm⟩ : ∃ m, Tryz.prog.types.size = m + 1 := ⟨Tryz.prog.types.size - 1, by have : 0 < Tryz.prog.types.size := of_decide_eq_true (by kernel_rfl); omega⟩
  have w1 := wf_i32 h.1.1 h.1.2
  have w2 := wf_i32 h.2.1 h.2.2
  unfold keyOf evV
  simp only [Tryz.underlying39]
  rw [if_pos (by simp [ktype, Value.formed, Tryz.underlying39, kcells]), hm]
  unfold Program.keyLits
  simp only [Tryz.underlying39, Value.cells]
  rw [if_pos (by rw [kcells]; exact ⟨rfl, by simp⟩)]
  simp [kcells32, Program.keyLits, Tryz.underlying21, w1, w2]
/-- What a step reads as, as a key. -/
noncomputable def klE (x : Ev) : Lit := (keyOf Tryz.prog 39 (evV x)).getD (.bool false)
theorem klE_eq {x : Ev} (h : okE x) : keyOf Tryz.prog 39 (evV x) = some (klE x) := by
  obtain ⟨kl, e⟩ := kl_ex x h
  unfold klE; rw [e]; rfl
theorem kl_injP {P : Program} {k : TypeId} (K : WideMaps.KeyLaw P k) {a b : Value} {la lb : Lit} (h1 : keyOf P k a = some la) (h2 : keyOf P k b = some lb) (h : la = lb) : a = b := by subst h; exact K.inj h1 h2
theorem kl_keyP {P : Program} {k : TypeId} (K : WideMaps.KeyLaw P k) {a : Value} {la : Lit} (h1 : keyOf P k a = some la) : WideAt.IsKeyLit la := (Maps.Keyed.of_law K).key h1
set_option maxRecDepth 100000 in
theorem klE_inj {x y : Ev} (hx : okE x) (hy : okE y) (h : klE x = klE y) : x = y := by
  have := kl_injP klaw (klE_eq hx) (klE_eq hy) h
  unfold evV at this
  simp at this
  exact Prod.ext this.1 this.2
/-- How often a step occurs. -/
def occ (x : Ev) : List Ev → Nat
  | [] => 0
  | y :: r => occ x r + (if y = x then 1 else 0)
theorem occ_app (x : Ev) : ∀ a b : List Ev, occ x (a ++ b) = occ x a + occ x b
  | [], b => by simp [occ]
  | y :: r, b => by rw [List.cons_append, occ, occ, occ_app x r b]; omega
theorem occ_le (x : Ev) : ∀ l : List Ev, occ x l ≤ l.length
  | [] => Nat.le_refl _
  | y :: r => by have := occ_le x r; rw [occ]; split <;> simp <;> omega
abbrev Dm := DataW Unit
/-- A map that holds how often each step occurs. -/
structure Cnt (D : Dm) (l : List Ev) : Prop where
  at_ : ∀ x, okE x → D.atKey (klE x) (.lit (.int .i64 0)) = .lit (.int .i64 ((occ x l : Nat) : Int))
  has : ∀ kl, Maps.has D kl = true → ∃ x ∈ l, klE x = kl
  all : ∀ x ∈ l, Maps.has D (klE x) = true
theorem Cnt.nil : Cnt (.map [] : Dm) [] := ⟨fun x _ => rfl, fun kl h => by simp [Maps.has] at h, fun x h => by cases h⟩
set_option maxRecDepth 100000 in
theorem Cnt.step {D : Dm} {l : List Ev} {x : Ev} (h : Cnt D l) (hD : Maps.IsMap D) (hx : okE x) (_hl : ∀ y ∈ l, okE y) : Cnt (D.put (klE x) (.lit (.int .i64 (((occ x l + 1 : Nat)) : Int)))) (l ++ [x]) := by
  have hk := kl_keyP klaw (klE_eq hx)
  refine ⟨fun y hy => ?_, fun kl hkl => ?_, fun y hy => ?_⟩
  · rw [occ_app]
    by_cases e : x = y
    · subst e
      rw [Maps.atKey_put_same hD hk]
      simp [occ]
    · rw [Maps.atKey_put_other (fun e2 => e (klE_inj hx hy e2.symm)), h.at_ y hy]
      simp [occ, e]
  · by_cases e : kl = klE x
    · exact ⟨x, by simp, e.symm⟩
    · rw [Maps.has_put_other e] at hkl
      obtain ⟨y, hy, e2⟩ := h.has kl hkl
      exact ⟨y, by simp [hy], e2⟩
  · by_cases e : klE y = klE x
    · rw [e]; exact Maps.has_put_same hD hk _
    · rw [Maps.has_put_other e]
      rcases List.mem_append.1 hy with hy | hy
      · exact h.all y hy
      · simp at hy; exact absurd (by rw [hy]) e
theorem zeroI (u : World) : (zeroValue 3).run Tryz.prog u = .ok (.int .i64 0) u := by kernel_rfl
theorem wf_nat {m : Nat} (h : m ≤ 1000000000) : (Lit.int .i64 ((m : Nat) : Int)).wf = true := by
  have e1 : IntKind.i64.min = -9223372036854775808 := by decide
  have e2 : IntKind.i64.max = 9223372036854775807 := by decide
  unfold Lit.wf
  simp [e1, e2]; omega
theorem cell_of_block {w w' : World} {b : Nat} (h : w'.heap[b]? = w.heap[b]?) (o : Nat) : w'.cell? ⟨b, o, none⟩ = w.cell? ⟨b, o, none⟩ := by
  unfold World.cell?; simp only [h]
/-- What counts returns. -/
def CnPost (w : World) (l : List Ev) (e : Ending) (w' : World) : Prop := ∃ (B : Nat) (D : Dm), e = .returned (.map (some B)) ∧ w.heap.size ≤ B ∧ w'.ownsMap Tryz.prog 39 (plainElem Tryz.prog 3) B l.length D ∧ Cnt D l ∧ Below w.heap.size w w'
set_option maxRecDepth 100000 in
theorem counts_any (v : Value) (l : List Ev) (w : World) (hv : TR w v l) (hl : l.length ≤ 100000000) : Calls Tryz.prog 36 #[v] w (CnPost w l) := by
  obtain ⟨ho, p, c, rfl, _, hx⟩ := hv
  have HO := Lib.hid ho
  have HX := Lib.hid hx
  obtain ⟨n, hn⟩ : ∃ n, n = l.length := ⟨_, rfl⟩
  rw [← hn] at hl ⊢
  have HN := Lib.hid hn
  have hmm := @run_makeMap Tryz.prog
  clear ho hx hn
  go_enter Tryz.func36, Tryz.ntmps36
  go_wp2
  clear hmm
  go_loopw [5, 9] (fun _ i wr => ∃ (k : Nat) (D : Dm), k ≤ n ∧ i = .int .i64 (k : Int) ∧ wr.ownsMap Tryz.prog 39 (plainElem Tryz.prog 3) w.heap.size k D ∧ Hid (Cnt D (l.take k)) ∧ Below w.heap.size w wr) (fun _ i _ => n - (intOf i).toNat)
  case atStart => exact ⟨0, .map [], Nat.zero_le _, rfl, World.ownsMap_made _ _ _ _, Lib.hid Cnt.nil, (Below.refl _ w).alloc (Nat.le_refl _) _⟩
  case round =>
    obtain ⟨k, D, hk, rfl, hown, hcn, hb⟩ := hrel
    by_cases hlt : k < n
    · have tl : decide ((k : Int) < (n : Int)) = true := decide_eq_true (by omega)
      obtain ⟨x, hxk⟩ : ∃ x, l[k]? = some x := ⟨_, List.getElem?_eq_getElem (by rw [← HN.out]; exact hlt)⟩
      obtain ⟨b, o, rfl, hbl, c1, c2⟩ := HX.out k x hxk
      replace c1 := (hb.cell (p := ⟨b, o + k * 2, none⟩) hbl).trans c1
      replace c2 := (hb.cell (p := ⟨b, o + k * 2 + 1, none⟩) hbl).trans c2
      have hok := okE_at HO.out hxk
      have how2 : ((wr.alloc (.cells #[.int .i32 x.1, .int .i32 x.2] 39)).drew).ownsMap Tryz.prog 39 (plainElem Tryz.prog 3) w.heap.size k D := (hown.alloc _).drew
      obtain ⟨c, st, w1, hat, hwc, q1, ⟨v0, q2⟩, q3, hg1, hs1, hst⟩ := own_entry how2 klaw Tryz.underlying79 Tryz.underlying3 zeroI (by unfold maxLen; omega) (klE_eq hok)
      have hc : c = ((occ x (l.take k) : Nat) : Int) := by
        rw [hcn.out.at_ x hok] at hat
        simpa using hat.symm
      have hol := occ_le x (l.take k)
      rw [List.length_take] at hol
      obtain ⟨es0, he0, _⟩ := hown.entries (Maps.Keyed.of_law klaw)
      have STP := Lib.hid (hcn.out.step ⟨es0, he0⟩ hok (fun y hy => HO.out y (List.mem_of_mem_take hy)))
      obtain ⟨m, hm⟩ : ∃ m, m = occ x (l.take k) := ⟨_, rfl⟩
      rw [← hm] at hc hol STP
      subst hc
      have hm8 : m ≤ 100000000 := by omega
      obtain ⟨w2, q4, how3, hg2, hs2⟩ := hst (((m + 1 : Nat) : Nat) : Int) (wf_nat (by omega))
      rw [show (((m + 1 : Nat) : Nat) : Int) = (m : Int) + 1 by omega] at q4
      have hwr : IntKind.i64.wrap ((m : Int) + 1) = (m : Int) + 1 := IntWalk.i64_in _ (by omega)
      have ne : wr.heap.size ≠ w.heap.size := by have := hown.lt; omega
      have s1 : w1.cell? ⟨wr.heap.size, 0, none⟩ = some (.int .i32 x.1) := by
        rw [cell_of_block (hg1.block wr.heap.size (by simp) (by simpa using ne))]
        simp [World.cell?_alloc_new]
      have s2 : w1.cell? ⟨wr.heap.size, 1, none⟩ = some (.int .i32 x.2) := by
        rw [cell_of_block (hg1.block wr.heap.size (by simp) (by simpa using ne))]
        simp [World.cell?_alloc_new]
      unfold evV at q1 q2 q3
      have TK := Lib.hid (show l.take (k + 1) = l.take k ++ [x] by rw [List.take_add_one, hxk]; rfl)
      have HW := Lib.hid how3
      have HG := Lib.hid hg2
      have HB := Lib.hid (((hb.alloc hb.size (.cells #[.int .i32 x.1, .int .i32 x.2] 39)).drew).grown hg2 (by simp; have := hb.size; omega) (fun j e => by cases e; exact Nat.le_refl _))
      clear hown hcn hb how2 hat hwc hg1 hs1 hst hm hol how3 hg2 hs2 hbl hok hxk he0
      go_wp2
      go_region_with (fail)
      all_goals go_wp2
      all_goals go_roundw
      all_goals first
        | (case rel => exact ⟨k + 1, _, by omega, by go_num, HW.out, Lib.hid (by rw [TK.out]; exact STP.out), HB.out⟩)
        | (case measure => simp [intOf]; omega)
    · obtain rfl : k = n := by omega
      have tl : decide ((k : Int) < (k : Int)) = false := decide_eq_false (by omega)
      have HW := Lib.hid hown
      clear hown
      go_wp2
      go_ret
      refine ⟨_, D, rfl, Nat.le_refl _, by rw [← HN.out]; exact HW.out, ?_, hb⟩
      have := hcn.out
      rwa [List.take_of_length_le (by rw [← HN.out]; exact Nat.le_refl _)] at this
end Go.Proofs.YtihhgnjkmhdpmaaGreatDoor
