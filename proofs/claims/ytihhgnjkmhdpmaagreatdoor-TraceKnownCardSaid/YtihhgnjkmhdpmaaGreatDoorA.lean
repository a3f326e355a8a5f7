/- Traces in memory; isKind, Check of both. -/
import Derived.Test.YtihhgnjkmhdpmaaGreatDoorRows
import Derived.Test.YtihhgnjkmhdpmaaGreatDoorPa
import Derived.WalkKit
import Derived.WalkSpells
import Derived.WalkLawsBesides
import Derived.IntWalk
import Derived.BigQuiet
import Derived.Deep.QuietTactic
import Derived.Lib.Hide
import Derived.Outline
import Derived.Below
namespace Go.Proofs.YtihhgnjkmhdpmaaGreatDoor
open Go.RowKit
theorem ret_bool {a b : Bool} (h : a = b) : Ending.returned (.bool a) = .returned (.bool b) := by rw [h]
theorem ret_tup2 {a b c d : Int} {q : IntKind} (h : a = b) (h' : c = d) : Ending.returned (.tuple #[.int q a, .int .i64 c]) = .returned (.tuple #[.int q b, .int .i64 d]) := by rw [h, h']
def okE (x : Ev) : Prop := (-2147483648 ≤ x.1 ∧ x.1 ≤ 2147483647) ∧ -2147483648 ≤ x.2 ∧ x.2 ≤ 2147483647
def evV (x : Ev) : Value := .agg #[.int .i32 x.1, .int .i32 x.2]
/-- A trace in memory. -/
def TR (W : World) (v : Value) (l : List Ev) : Prop :=
  (∀ x ∈ l, okE x) ∧ ∃ p c, v = .slice p l.length c ∧ l.length ≤ c ∧ ∀ i x, l[i]? = some x → ∃ b o, p = some ⟨b, o, none⟩ ∧ b < W.heap.size ∧ W.cell? ⟨b, o + i * 2, none⟩ = some (.int .i32 x.1) ∧ W.cell? ⟨b, o + i * 2 + 1, none⟩ = some (.int .i32 x.2)
theorem TR.below {w w' : World} {v : Value} {l : List Ev} (h : TR w v l) (hb : Below w.heap.size w w') : TR w' v l := by
  obtain ⟨ho, p, c, rfl, hc, hx⟩ := h
  refine ⟨ho, p, c, rfl, hc, fun i x hi => ?_⟩
  obtain ⟨b, o, rfl, h1, h2, h3⟩ := hx i x hi
  exact ⟨b, o, rfl, Nat.lt_of_lt_of_le h1 hb.size, (hb.cell (p := ⟨b, o + i * 2, none⟩) h1).trans h2, (hb.cell (p := ⟨b, o + i * 2 + 1, none⟩) h1).trans h3⟩
theorem TR.nil (W : World) : TR W (.slice none 0 0) [] := ⟨by simp, none, 0, rfl, Nat.le_refl _, fun i x h => by simp at h⟩
theorem TR.form {W : World} {v : Value} {l : List Ev} (h : TR W v l) (hn : 0 < l.length) : ∃ b o c, v = .slice (some ⟨b, o, none⟩) l.length c ∧ l.length ≤ c ∧ b < W.heap.size ∧ ∀ i x, l[i]? = some x → W.cell? ⟨b, o + i * 2, none⟩ = some (.int .i32 x.1) ∧ W.cell? ⟨b, o + i * 2 + 1, none⟩ = some (.int .i32 x.2) := by
  obtain ⟨ho, p, c, rfl, hc, hx⟩ := h
  obtain ⟨b, o, rfl, h1, _⟩ := hx 0 l[0] (List.getElem?_eq_getElem hn)
  refine ⟨b, o, c, rfl, hc, h1, fun i x hi => ?_⟩
  obtain ⟨b', o', e, _, h⟩ := hx i x hi
  cases e; exact h
theorem kind_any (k : Int) (w : World) : Calls Tryz.prog 35 #[.int .i64 k] w fun e w' => e = .returned (.bool (kindB k)) ∧ w = w' := by
  by_cases h : k = 1
  · have R := Lib.hid (show kindB k = true by unfold kindB; simp [h])
    have hb : (k == 1) = true := by simp [h]
    clear h
    go_enter Tryz.func35, Tryz.ntmps35
    go_wp2
    go_ret
    exact ⟨ret_bool R.out.symm, rfl⟩
  · have hb : (k == 1) = false := by simpa using h
    have R := Lib.hid (show kindB k = (k == 2) by unfold kindB; rw [hb]; rfl)
    clear h
    go_enter Tryz.func35, Tryz.ntmps35
    go_wp2
    go_ret
    exact ⟨ret_bool R.out.symm, rfl⟩
def ChPost (w : World) (r : Int × Int) (e : Ending) (w' : World) : Prop := e = .returned (.tuple #[.int .i64 r.1, .int .i64 r.2]) ∧ Below w.heap.size w w'
theorem okE_at {l : List Ev} (h : ∀ x ∈ l, okE x) {k : Nat} {x : Ev} (hx : l[k]? = some x) : okE x := h x (List.mem_of_getElem? hx)
theorem evE_2 {cells : Int} {x : Ev} (h : kindB x.1 = false) : evE cells x = 2 := by unfold evE; rw [if_pos h]
theorem evE_7 {cells : Int} {x : Ev} (h : kindB x.1 = true) (h2 : x.2 < 0 ∨ cells ≤ x.2) : evE cells x = 7 := by unfold evE; rw [if_neg (by simp [h]), if_pos h2]
theorem evE_0 {cells : Int} {x : Ev} (h : kindB x.1 = true) (h1 : ¬ x.2 < 0) (h2 : ¬ cells ≤ x.2) : evE cells x = 0 := by unfold evE; rw [if_neg (by simp [h]), if_neg (by omega)]
set_option maxRecDepth 100000 in
theorem check_any (v : Value) (l : List Ev) (cells : Int) (w : World) (hv : TR w v l) (hl : l.length ≤ 100000000) :
    Calls Tryz.prog 13 #[v, .int .i64 cells] w (ChPost w (checkP l cells)) := by
  obtain ⟨ho, p, c, rfl, _, hx⟩ := hv
  have HO := Lib.hid ho
  have HX := Lib.hid hx
  obtain ⟨n, hn⟩ : ∃ n, n = l.length := ⟨_, rfl⟩
  rw [← hn] at hl ⊢
  have HN := Lib.hid hn
  clear ho hx
  by_cases h1 : cells < 1
  · have R := Lib.hid (show checkP l cells = (-1, 7) by unfold checkP; rw [if_pos (.inl h1)])
    have t1 : decide (cells < 1) = true := decide_eq_true h1
    clear h1 hn
    go_enter Tryz.func13, Tryz.ntmps13
    go_wp2
    go_ret2
    exact ⟨by rw [R.out]; rfl, Below.refl _ _⟩
  have t1 : decide (cells < 1) = false := decide_eq_false h1
  by_cases h2 : 65536 < cells
  · have R := Lib.hid (show checkP l cells = (-1, 7) by unfold checkP; rw [if_pos (.inr h2)])
    have t2 : decide (65536 < cells) = true := decide_eq_true h2
    clear h1 h2 hn
    go_enter Tryz.func13, Tryz.ntmps13
    go_wp2
    go_ret2
    exact ⟨by rw [R.out]; rfl, Below.refl _ _⟩
  have t2 : decide (65536 < cells) = false := decide_eq_false h2
  by_cases h3 : 8388608 < n
  · have R := Lib.hid (show checkP l cells = (-1, 3) by unfold checkP; rw [if_neg (by omega), if_pos (by omega)])
    have t3 : decide ((8388608 : Int) < (n : Int)) = true := decide_eq_true (by omega)
    clear h1 h2 h3 hn
    go_enter Tryz.func13, Tryz.ntmps13
    go_wp2
    go_ret2
    exact ⟨by rw [R.out]; rfl, Below.refl _ _⟩
  have t3 : decide ((8388608 : Int) < (n : Int)) = false := decide_eq_false (by omega)
  have R := Lib.hid (show checkP l cells = chkL cells 0 l by unfold checkP; rw [if_neg (by omega), if_neg (by omega)])
  clear hn
  go_enter Tryz.func13, Tryz.ntmps13
  go_wp2
  go_loopw [6, 7, 19] (fun _ _ i wr => ∃ k : Nat, k ≤ n ∧ i = .int .i64 (k : Int) ∧ Hid (chkL cells 0 l = chkL cells k (l.drop k)) ∧ Below w.heap.size w wr) (fun _ _ i _ => n - (intOf i).toNat)
  case atStart => exact ⟨0, Nat.zero_le _, rfl, Lib.hid rfl, Below.refl _ _⟩
  case round =>
    obtain ⟨k, hk, rfl, hc, hb⟩ := hrel
    by_cases hlt : k < n
    · have tl : decide ((k : Int) < (n : Int)) = true := decide_eq_true (by omega)
      obtain ⟨x, hxk⟩ : ∃ x, l[k]? = some x := ⟨_, List.getElem?_eq_getElem (by rw [← HN.out]; exact hlt)⟩
      obtain ⟨b, o, rfl, hbl, c1, c2⟩ := HX.out k x hxk
      replace c1 := (hb.cell (p := ⟨b, o + k * 2, none⟩) hbl).trans c1
      replace c2 := (hb.cell (p := ⟨b, o + k * 2 + 1, none⟩) hbl).trans c2
      have hbk := okE_at HO.out hxk
      obtain ⟨⟨w1, w2⟩, w3, w4⟩ := hbk
      have x1 : IntKind.i64.wrap x.1 = x.1 := IntWalk.i64_in _ (by omega)
      have x2 : IntKind.i64.wrap x.2 = x.2 := IntWalk.i64_in _ (by omega)
      have HB := Lib.hid (fun o : Obj => hb.alloc hb.size o)
      have IK := Lib.hid (fun W => kind_any x.1 W)
      clear hb hbl
      by_cases q1 : kindB x.1 = true
      · rw [q1] at IK
        by_cases q2 : x.2 < 0
        · have u2 : decide (x.2 < 0) = true := decide_eq_true q2
          have E := Lib.hid (chk_bad hxk (by rw [evE_7 (cells := cells) q1 (.inl q2)]; decide))
          have F := Lib.hid (evE_7 (cells := cells) q1 (.inl q2))
          clear q1 q2 hxk
          go_wp2_with (go_at_call 35; refine (IK.out _).mono ?_; rintro e w' ⟨rfl, rfl⟩)
          go_ret2
          exact ⟨by rw [R.out, hc.out, E.out, F.out]; rfl, HB.out _⟩
        · have u2 : decide (x.2 < 0) = false := decide_eq_false q2
          by_cases q3 : cells ≤ x.2
          · have u3 : decide (cells ≤ x.2) = true := decide_eq_true q3
            have E := Lib.hid (chk_bad hxk (by rw [evE_7 (cells := cells) q1 (.inr q3)]; decide))
            have F := Lib.hid (evE_7 (cells := cells) q1 (.inr q3))
            clear q1 q2 q3 hxk
            go_wp2_with (go_at_call 35; refine (IK.out _).mono ?_; rintro e w' ⟨rfl, rfl⟩)
            go_ret2
            exact ⟨by rw [R.out, hc.out, E.out, F.out]; rfl, HB.out _⟩
          · have u3 : decide (cells ≤ x.2) = false := decide_eq_false q3
            have E := Lib.hid (chk_step hxk (evE_0 (cells := cells) q1 q2 q3))
            clear q1 q2 q3 hxk
            go_wp2_with (go_at_call 35; refine (IK.out _).mono ?_; rintro e w' ⟨rfl, rfl⟩)
            go_roundw
            case rel => exact ⟨k + 1, by omega, by go_num, Lib.hid (by rw [hc.out, E.out]), HB.out _⟩
            case measure => simp [intOf]; omega
      · have q1 : kindB x.1 = false := by simpa using q1
        rw [q1] at IK
        have E := Lib.hid (chk_bad hxk (by rw [evE_2 (cells := cells) q1]; decide))
        have F := Lib.hid (evE_2 (cells := cells) q1)
        clear q1 hxk
        go_wp2_with (go_at_call 35; refine (IK.out _).mono ?_; rintro e w' ⟨rfl, rfl⟩)
        go_ret2
        exact ⟨by rw [R.out, hc.out, E.out, F.out]; rfl, HB.out _⟩
    · have tl : decide ((k : Int) < (n : Int)) = false := decide_eq_false (by omega)
      have E := Lib.hid (chk_end (cells := cells) (l := l) (k := k) (by rw [← HN.out]; omega))
      go_wp2
      go_ret2
      exact ⟨by rw [R.out, hc.out, E.out]; rfl, hb⟩
end Go.Proofs.YtihhgnjkmhdpmaaGreatDoor
