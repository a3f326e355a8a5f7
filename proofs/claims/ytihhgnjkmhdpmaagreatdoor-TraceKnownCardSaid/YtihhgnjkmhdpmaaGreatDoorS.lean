/- The laws' own calls: example, far, awake. -/
import Derived.Test.YtihhgnjkmhdpmaaGreatDoorR
import Derived.Test.YtihhgnjkmhdpmaaGreatDoorL
import Derived.Test.YtihhgnjkmhdpmaaGreatDoorD
namespace Go.Proofs.YtihhgnjkmhdpmaaGreatDoor
open Go.RowKit
def exL : List Ev := [(1, 5), (1, 6), (2, 6), (2, 6), (1, 7)]
theorem exL_ok : ∀ x ∈ exL, okE x := by
  intro x hx
  unfold exL at hx
  simp at hx
  rcases hx with rfl | rfl | rfl | rfl <;> (unfold okE; omega)
def exO : Obj := .cells #[.int .i32 1, .int .i32 5, .int .i32 1, .int .i32 6, .int .i32 2, .int .i32 6, .int .i32 2, .int .i32 6, .int .i32 1, .int .i32 7] 39
theorem ex_tr (w : World) : TR (w.alloc exO) (.slice (some ⟨w.heap.size, 0, none⟩) 5 5) exL := by
  refine ⟨exL_ok, _, 5, rfl, Nat.le_refl _, fun i x hx => ⟨_, _, rfl, by simp, ?_⟩⟩
  have hi := (List.getElem?_eq_some_iff.1 hx).1
  have hc : ∀ j, (w.alloc exO).cell? ⟨w.heap.size, j, none⟩ = (#[.int .i32 1, .int .i32 5, .int .i32 1, .int .i32 6, .int .i32 2, .int .i32 6, .int .i32 2, .int .i32 6, .int .i32 1, .int .i32 7] : Array Value)[j]? := fun j => by
    unfold exO; simp [World.cell?_alloc_new]
  rw [hc, hc]
  unfold exL at hi hx
  simp at hi
  match i, hi with
  | 0, _ => cases hx; exact ⟨rfl, rfl⟩
  | 1, _ => cases hx; exact ⟨rfl, rfl⟩
  | 2, _ => cases hx; exact ⟨rfl, rfl⟩
  | 3, _ => cases hx; exact ⟨rfl, rfl⟩
  | 4, _ => cases hx; exact ⟨rfl, rfl⟩
theorem example_any (w : World) : Calls Tryz.prog 14 #[] w fun e w' => e = .returned (.slice (some ⟨w.heap.size, 0, none⟩) 5 5) ∧ w' = w.alloc exO := by
  go_enter Tryz.func14, Tryz.ntmps14
  go_wp2
  go_ret
  exact ⟨rfl, rfl⟩
/-- Is a trace more than is looked at? -/
def farB (n : Nat) : Bool := (decide (400 < n) && decide (n ≤ 5000)) || decide (5100 < n)
theorem farB_false {n : Nat} (h : farB n = false) : n ≤ 5100 := by
  unfold farB at h; simp at h; omega
theorem far_any (p : Option Addr) (n c : Nat) (w : World) : Calls Tryz.prog 6 #[.slice p n c] w fun e w' => e = .returned (.bool (farB n)) ∧ w = w' := by
  by_cases h1 : 400 < n
  · have t1 : decide ((400 : Int) < (n : Int)) = true := decide_eq_true (by omega)
    by_cases h2 : n ≤ 5000
    · have t2 : decide ((n : Int) ≤ 5000) = true := decide_eq_true (by omega)
      have R := Lib.hid (show farB n = true by unfold farB; simp; omega)
      clear h1 h2
      go_enter Tryz.func6, Tryz.ntmps6
      go_wp2
      go_ret
      exact ⟨ret_bool R.out.symm, rfl⟩
    · have t2 : decide ((n : Int) ≤ 5000) = false := decide_eq_false (by omega)
      have R := Lib.hid (show farB n = decide ((5100 : Int) < (n : Int)) by unfold farB; rw [Bool.eq_iff_iff]; simp; omega)
      clear h1 h2
      go_enter Tryz.func6, Tryz.ntmps6
      go_wp2
      go_ret
      exact ⟨ret_bool R.out.symm, rfl⟩
  · have t1 : decide ((400 : Int) < (n : Int)) = false := decide_eq_false (by omega)
    have R := Lib.hid (show farB n = decide ((5100 : Int) < (n : Int)) by unfold farB; rw [Bool.eq_iff_iff]; simp; omega)
    clear h1
    go_enter Tryz.func6, Tryz.ntmps6
    go_wp2
    go_ret
    exact ⟨ret_bool R.out.symm, rfl⟩
def exR : List Rg := [(⟨#[]⟩, 5, 1), (⟨#[]⟩, 6, 1)]
def exRO : Obj := .cells #[.string ⟨#[]⟩, .int .i64 5, .int .i64 1, .string ⟨#[]⟩, .int .i64 6, .int .i64 1] 45
theorem ex_rg (w : World) : RG (w.alloc exRO) (.slice (some ⟨w.heap.size, 0, none⟩) 2 2) exR := by
  refine ⟨?_, _, 2, rfl, fun i x hx => ⟨_, _, rfl, by simp, ?_⟩⟩
  · intro r hr
    unfold exR at hr
    simp at hr
    rcases hr with rfl | rfl <;> (unfold ok64; simp)
  · have hi := (List.getElem?_eq_some_iff.1 hx).1
    have hc : ∀ j, (w.alloc exRO).cell? ⟨w.heap.size, j, none⟩ = (#[.string ⟨#[]⟩, .int .i64 5, .int .i64 1, .string ⟨#[]⟩, .int .i64 6, .int .i64 1] : Array Value)[j]? := fun j => by
      unfold exRO; simp [World.cell?_alloc_new]
    rw [hc, hc, hc]
    unfold exR at hi hx
    simp at hi
    match i, hi with
    | 0, _ => cases hx; exact ⟨rfl, rfl, rfl⟩
    | 1, _ => cases hx; exact ⟨rfl, rfl, rfl⟩
theorem ex_print : printE exL = 0 ∧ printT exL = [108, 111, 97, 100, 32, 53, 32, 50, 10, 115, 116, 111, 114, 101, 32, 54, 32, 49, 10, 115, 116, 111, 114, 101, 32, 54, 32, 49, 10, 108, 111, 97, 100, 32, 55, 32, 49, 10] := by decide +kernel
theorem ex_count : countN exL 1 = 3 ∧ countE 1 = 0 := by decide +kernel
theorem ex_diff : diffP exL (exL.take 3) = 3 := by decide +kernel
theorem ex_partE : partE exR = 0 := partE_ok (by intro r hr; unfold exR at hr; simp at hr; rcases hr with rfl | rfl <;> (unfold rgOk; simp)) (by unfold apartR exR ovl; simp)
theorem ex_parts : partsR exR exL = [1, 3, 1] := by
  unfold partsR
  rw [if_pos ex_partE]
  decide +kernel
theorem ex_ints (w : World) : IRow (w.alloc (.cells #[.int .i64 1, .int .i64 3, .int .i64 1] 3)) (.slice (some ⟨w.heap.size, 0, none⟩) 3 3) [1, 3, 1] := by
  refine ⟨_, 3, rfl, Nat.le_refl _, fun i x hx => ⟨_, _, rfl, ?_⟩⟩
  have hi := (List.getElem?_eq_some_iff.1 hx).1
  simp at hi
  match i, hi with
  | 0, _ => cases hx; simp [World.cell?_alloc_new]
  | 1, _ => cases hx; simp [World.cell?_alloc_new]
  | 2, _ => cases hx; simp [World.cell?_alloc_new]
theorem below_drewN2 {n : Nat} {w w' : World} (h : Below n w w') (d : Nat) : Below n w (w'.drewN d) := ⟨h.os, h.tape, h.output, h.size, h.block⟩
def AwPost (w : World) (e : Ending) (w' : World) : Prop := e = .returned (.bool true) ∧ Below w.heap.size w w'
theorem TR.take3 {W : World} {g : Nat} (h : TR W (.slice (some ⟨g, 0, none⟩) 5 5) exL) : TR W (.slice (some ⟨g, 0, none⟩) 3 5) (exL.take 3) := by
  obtain ⟨ho, p, c, e, hc, hx⟩ := h
  cases e
  refine ⟨fun x hx => ho x (List.mem_of_mem_take hx), _, 5, rfl, by decide, fun i x hi => hx i x ?_⟩
  rw [List.getElem?_take] at hi
  split at hi
  · exact hi
  · cases hi
set_option maxHeartbeats 1600000 in
set_option maxRecDepth 100000 in
theorem awake_any (w : World) (hp : P10 w) : Calls Tryz.prog 7 #[] w (AwPost w) := by
  have EX := Lib.hid example_any
  have hb := Below.refl w.heap.size w
  have HP := Lib.hid (fun W (h : Below w.heap.size w W) => hp.below h)
  have PR := Lib.hid (fun v W hv hp => print_any v exL W hv (by decide) hp)
  rw [ex_print.1, ex_print.2] at PR
  have CT := Lib.hid (fun v W hv => count_any v exL 1 W hv (by decide))
  unfold CtPost at CT
  rw [ex_count.1, ex_count.2] at CT
  have PA := Lib.hid (fun v r W hv hr => parts_any v r exL exR W hv hr (by decide) (by decide))
  unfold PaPost at PA
  rw [ex_partE, ex_parts] at PA
  have DF := Lib.hid (fun v u W hv hu => differ_any v u exL (exL.take 3) W hv hu (by decide) (by decide))
  rw [ex_diff] at DF
  have DG := Lib.hid (fun W => digest_any (.slice none 0 0) [] W (TR.nil W) (by decide))
  rw [show digP [] = 14695981039346656037 from rfl] at DG
  clear hp
  go_enter Tryz.func7, Tryz.ntmps7
  go_wp2_with (go_at_call 14; refine (EX.out _).mono ?_; rintro e w1 ⟨rfl, rfl⟩)
  refine (PR.out _ _ (ex_tr _) (HP.out _ (hb.alloc hb.size _))).mono ?_
  rintro e w2 ⟨rfl, hb2⟩
  replace hb := (hb.alloc hb.size exO).trans (hb2.mono (by have := hb.size; simp <;> omega))
  clear hb2
  go_wp2_with (go_at_call 14; refine (EX.out _).mono ?_; rintro e w1 ⟨rfl, rfl⟩)
  refine (CT.out _ _ (ex_tr _)).mono ?_
  rintro e w3 ⟨rfl, hb2⟩
  replace hb := (hb.alloc hb.size exO).trans (hb2.mono (by have := hb.size; simp <;> omega))
  clear hb2
  go_wp2_with (go_at_call 14; refine (EX.out _).mono ?_; rintro e w1 ⟨rfl, rfl⟩)
  refine (PA.out _ _ _ ((ex_tr w3).below ((Below.refl _ _).alloc (Nat.le_refl _) exRO)) (by have := ex_rg (w3.alloc exO); rwa [World.size_alloc] at this)).mono ?_
  rintro e w4 ⟨v5, rfl, hrow, hb2⟩
  replace hb := ((hb.alloc hb.size exO).alloc (by have := hb.size; simp <;> omega) exRO).trans (hb2.mono (by have := hb.size; simp <;> omega))
  clear hb2
  obtain ⟨p5, c5, rfl, _⟩ : ∃ p c, v5 = .slice p 3 c ∧ True := by
    obtain ⟨p, c, e, _⟩ := hrow
    exact ⟨p, c, e, trivial⟩
  have HR := Lib.hid hrow
  clear hrow
  have IN := Lib.hid (ints_any _ _ [1, 3, 1] [1, 3, 1] _ (HR.out.below ((Below.refl _ _).alloc (Nat.le_refl _) (.cells #[.int .i64 1, .int .i64 3, .int .i64 1] 3))) (ex_ints w4) (by decide))
  rw [show decide (([1, 3, 1] : List Int) = [1, 3, 1]) = true by decide] at IN
  go_wp2_with (first
    | (go_at_call 19; refine IN.out.mono ?_; rintro e w5 ⟨rfl, d, rfl⟩; replace hb := below_drewN2 (hb.alloc hb.size (.cells #[.int .i64 1, .int .i64 3, .int .i64 1] 3)) d; generalize ((w4.alloc (.cells #[.int .i64 1, .int .i64 3, .int .i64 1] 3)).drewN d) = w5 at *)
    | (go_at_call 14; refine (EX.out _).mono ?_; rintro e w1 ⟨rfl, rfl⟩))
  refine (DF.out _ _ _ ((ex_tr w5).below ((Below.refl _ _).alloc (Nat.le_refl _) exO)) (TR.take3 (by have := ex_tr (w5.alloc exO); rwa [World.size_alloc] at this))).mono ?_
  rintro e w6 ⟨rfl, hb2⟩
  replace hb := ((hb.alloc hb.size exO).alloc (by have := hb.size; simp <;> omega) exO).trans (hb2.mono (by have := hb.size; simp <;> omega))
  clear hb2
  go_wp2_with (go_at_call 15; refine (DG.out _).mono ?_; rintro e w7 ⟨rfl, hb2⟩; replace hb := hb.trans (hb2.mono hb.size))
  go_ret
  exact ⟨rfl, hb⟩
end Go.Proofs.YtihhgnjkmhdpmaaGreatDoor
