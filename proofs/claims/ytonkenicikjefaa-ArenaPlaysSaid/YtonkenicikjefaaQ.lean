/- far; ArenaKeeps. -/
import Derived.Test.YtonkenicikjefaaY
import Derived.Deep.Cut
namespace Go.Proofs.Ytonkenicikjefaa
open Go.RowKit
def FarPost (W : World) (l : List Cl) (e : Ending) (w' : World) : Prop := ∃ b : Bool, e = .returned (.bool b) ∧ W = w' ∧ (b = false → l.length ≤ 200 ∧ ∀ x ∈ l, x.name.size ≤ 100)
theorem CS.below {w w' : World} {v : Value} {l : List Cl} (h : CS w v l) (hb : Below w.heap.size w w') : CS w' v l := by
  obtain ⟨q, c, rfl, hx⟩ := h
  refine ⟨q, c, rfl, fun i x hi => ?_⟩
  obtain ⟨b, o, rfl, hl, hok, h0, h1, h2, h3, h4⟩ := hx i x hi
  exact ⟨b, o, rfl, Nat.lt_of_lt_of_le hl hb.size, hok, (hb.cell (p := ⟨b, o + i * 5, none⟩) hl).trans h0, (hb.cell (p := ⟨b, o + i * 5 + 1, none⟩) hl).trans h1, (hb.cell (p := ⟨b, o + i * 5 + 2, none⟩) hl).trans h2, (hb.cell (p := ⟨b, o + i * 5 + 3, none⟩) hl).trans h3, (hb.cell (p := ⟨b, o + i * 5 + 4, none⟩) hl).trans h4⟩
set_option maxRecDepth 100000 in
theorem far_any (v : Value) (l : List Cl) (w : World) (h : CS w v l) : Calls Try.prog 10 #[v] w (FarPost w l) := by
  obtain ⟨q, c, rfl, hx⟩ := h
  obtain ⟨n, hn⟩ : ∃ n, n = l.length := ⟨_, rfl⟩
  rw [← hn]
  have HN := Lib.hid hn
  have HX := Lib.hid hx
  clear hx hn
  go_enter Try.func10, Try.ntmps10
  go_wp2
  go_loopw [3] (fun i wr => ∃ k : Nat, k ≤ n ∧ k ≤ 210 ∧ i = .int .i64 (k : Int) ∧ Hid (∀ j x, j < k → l[j]? = some x → x.name.size ≤ 100) ∧ w = wr) (fun i _ => n - (intOf i).toNat)
  case atStart => exact ⟨0, Nat.zero_le _, Nat.zero_le _, rfl, Lib.hid (fun j x hj => absurd hj (Nat.not_lt_zero _)), rfl⟩
  case round =>
    obtain ⟨k, hk, hk2, rfl, hd, rfl⟩ := hrel
    by_cases hlt : k < n
    · have t1 : decide ((k : Int) < (n : Int)) = true := decide_eq_true (by omega)
      have t1' : (k : Int) < (n : Int) := by omega
      by_cases h210 : k < 210
      · have t2 : decide ((k : Int) < 210) = true := decide_eq_true (by omega)
        obtain ⟨x, hx⟩ : ∃ x, l[k]? = some x := ⟨_, List.getElem?_eq_getElem (by rw [← HN.out]; exact hlt)⟩
        obtain ⟨b, o, hq, _, _, _, _, _, _, c4⟩ := HX.out k x hx
        subst hq
        by_cases hb : 100 < x.name.size
        · have t3 : decide ((100 : Int) < (x.name.size : Int)) = true := decide_eq_true (by omega)
          clear hx hb
          go_wp2
          go_ret
          exact ⟨true, rfl, rfl, fun h => by cases h⟩
        · have t3 : decide ((100 : Int) < (x.name.size : Int)) = false := decide_eq_false (by omega)
          have HB := Lib.hid hx
          have HB2 := Lib.hid hb
          clear hx hb
          go_wp2
          go_roundw
          case rel =>
            refine ⟨k + 1, by omega, by omega, by go_num, Lib.hid (fun j y hj hy => ?_), trivial⟩
            by_cases e : j = k
            · subst e; rw [HB.out] at hy; cases hy; have := HB2.out; omega
            · exact hd.out j y (by omega) hy
          case measure => simp [intOf]; omega
      · have t2 : decide ((k : Int) < 210) = false := decide_eq_false (by omega)
        have t3 : decide ((200 : Int) < (n : Int)) = true := decide_eq_true (by omega)
        go_wp2
        go_ret
        exact ⟨true, rfl, rfl, fun h => by cases h⟩
    · obtain rfl : k = n := by omega
      have t1 : decide ((k : Int) < (k : Int)) = false := decide_eq_false (by omega)
      by_cases h2 : 200 < k
      · have t3 : decide ((200 : Int) < (k : Int)) = true := decide_eq_true (by omega)
        go_wp2
        go_ret
        exact ⟨true, rfl, rfl, fun h => by cases h⟩
      · have t3 : decide ((200 : Int) < (k : Int)) = false := decide_eq_false (by omega)
        go_wp2
        go_ret
        refine ⟨false, rfl, rfl, fun _ => ⟨by rw [← HN.out]; omega, fun x hx => ?_⟩⟩
        obtain ⟨j, hj⟩ := List.getElem?_of_mem hx
        exact hd.out j x (by have := (List.getElem?_eq_some_iff.1 hj).1; rw [HN.out]; exact this) hj
/-- The row 'last'. -/
def LR (W : World) (g : Nat) (cs : List Nat) : Prop := W.rowIs g 33 cs.length (fun i => u64v (cs.getD i 0))
theorem LR.urow {W : World} {g n : Nat} {cs : List Nat} (h : LR W g cs) (hn : cs.length = n) : URow W (.slice (some ⟨g, 0, none⟩) n n) cs := by
  subst hn
  exact ⟨_, _, rfl, Nat.le_refl _, fun i x hi => ⟨g, 0, rfl, by
    have hin := (List.getElem?_eq_some_iff.1 hi).1
    rw [Nat.zero_add, World.rowIs.cell h hin, List.getD_eq_getElem?_getD, hi]; rfl⟩⟩
theorem LR.set {W : World} {g : Nat} {cs : List Nat} (h : LR W g cs) (a v : Nat) (ha : a < cs.length) : LR (W.setCell ⟨g, a, none⟩ (.int .u64 (v : Int))) g (cs.set a v) := by
  unfold LR
  rw [List.length_set]
  refine (World.rowIs.set h a _).congr fun i hi => ?_
  by_cases e : i = a
  · subst e
    rw [if_pos rfl, List.getD_eq_getElem?_getD, List.getElem?_set_self (by simpa using hi)]; rfl
  · rw [if_neg e, List.getD_eq_getElem?_getD, List.getD_eq_getElem?_getD, List.getElem?_set_ne (Ne.symm e)]
theorem ow_cells' {w0 W : World} {R : Nat → Prop} {p n : Nat} {cs : List Nat} {rs : List Rg} {tr : List (Nat × Nat)} (h : Ow w0 W R p cs rs tr) (hn : cs.length = n) : Calls Try.prog 24 #[.pointer (some ⟨p, 0, none⟩)] W fun e w' => ∃ g c, e = .returned (.slice (some ⟨g, 0, none⟩) n c) ∧ URow w' (.slice (some ⟨g, 0, none⟩) n c) cs ∧ Below W.heap.size W w' := by
  subst hn
  refine (ow_cells h).mono ?_
  rintro e w' ⟨g, c, rfl, _, ho, hb⟩
  exact ⟨g, c, rfl, ho.row, hb⟩
theorem same_self {a b : Value} {xs : List Nat} {w : World} (ha : URow w a xs) (hb : URow w b xs) (hl : xs.length ≤ 1000000) : Calls Try.prog 23 #[a, b] w fun e w' => e = .returned (.bool true) ∧ Below w.heap.size w w' := by
  refine (same_u64 a b xs xs w ha hb hl).mono ?_
  rintro e w' ⟨rfl, d, rfl⟩
  exact ⟨by rw [eqB_true rfl], below_drewN (Below.refl _ _) d⟩
theorem URow.below' {w w' : World} {v : Value} {xs : List Nat} (h : URow w v xs) (hb : Below w.heap.size w w') : URow w' v xs := h.below hb
abbrev clO (a : Nat) (b c : Int) (d : Nat) (s : ByteArray) : Obj := .cells #[.int .u8 (a : Int), .int .i64 b, .int .i64 c, .int .u64 (d : Int), .string s] 35
/-- A call copied to a variable of the law's own. -/
theorem cl_cells {W : World} {B : Nat} {a : Nat} {b c : Int} {d : Nat} {s : ByteArray} (h : W.heap[B]? = some (clO a b c d s)) : W.cell? ⟨B, 0, none⟩ = some (.int .u8 (a : Int)) ∧ W.cell? ⟨B, 1, none⟩ = some (.int .i64 b) ∧ W.cell? ⟨B, 2, none⟩ = some (.int .i64 c) ∧ W.cell? ⟨B, 3, none⟩ = some (.int .u64 (d : Int)) ∧ W.cell? ⟨B, 4, none⟩ = some (.string s) :=
  ⟨cell_blk h 0, cell_blk h 1, cell_blk h 2, cell_blk h 3, cell_blk h 4⟩
theorem LR.below {w w' : World} {g : Nat} {cs : List Nat} (h : LR w g cs) (hb : Below w.heap.size w w') : LR w' g cs := World.rowIs.of_block h (hb.block g (World.rowIs.lt h))
end Go.Proofs.Ytonkenicikjefaa
