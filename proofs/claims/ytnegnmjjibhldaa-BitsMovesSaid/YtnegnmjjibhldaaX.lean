/- Layer 2: two shifts at once, walked. -/
import Derived.Test.YtnegnmjjibhldaaU
import Derived.Laws.StructEq
import Derived.ChangeKeysEq
namespace Go.Proofs.Ytnegnmjjibhldaa
open Go.RowKit
theorem eq2 (w : World) (a b c e : Bool) : (Op.equalIn 10000 46 (.agg #[.bool a, .bool b]) (.agg #[.bool c, .bool e])).run Try.prog w = .ok (a == c && b == e) w := by
  obtain ⟨i, hi⟩ := info_of_underlying Try.underlying4
  have hp : ∀ (xs : Array Value) (k : Nat) (v : Value), xs[k]? = some v → (Go.part 4 xs k).run Try.prog w = .ok v w := fun xs k v h => run_part_plain w (by kernel_rfl) h
  have hc : Try.prog.cellsOf 4 = 1 := by kernel_rfl
  have he : ∀ a b : Bool, (Op.equalIn 9999 4 (.bool a) (.bool b)).run Try.prog w = .ok (a == b) w := fun a b => run_equalIn_bool w 9998 _ a b Try.underlying4
  have p1 := hp #[.bool a, .bool b] 0 (.bool a) rfl
  have p2 := hp #[.bool a, .bool b] 1 (.bool b) rfl
  have p3 := hp #[.bool c, .bool e] 0 (.bool c) rfl
  have p4 := hp #[.bool c, .bool e] 1 (.bool e) rfl
  rw [show (10000 : Nat) = 9999 + 1 from rfl, run_equalIn_array w 9999 _ _ Try.underlying46 hi, hc, show List.range 2 = [0, 1] from rfl]
  simp only [Op.eqItems, Sem.run_bind, Nat.zero_mul, Nat.one_mul, p1, p2, p3, p4, Result.andThen_ok, he, Sem.run_ite, Sem.run_pure]
  cases a <;> cases b <;> cases c <;> cases e <;> rfl
theorem URow.setB {w : World} {a : Value} {xs : List Nat} {p : Addr} {u q : Bool} (h : URow w a xs) (hp : w.cell? p = some (.bool u)) : URow (w.setCell p (.bool q)) a xs := by
  obtain ⟨ad, c, rfl, hl, hc⟩ := h
  refine ⟨ad, c, rfl, hl, fun i x hi => ?_⟩
  obtain ⟨b, o, e, hx⟩ := hc i x hi
  refine ⟨b, o, e, ?_⟩
  rw [World.cell?_setCell_other (h := fun e' => by rw [e', hx] at hp; cases hp), hx]
set_option maxRecDepth 100000 in
theorem moved_ok {xs ys zs : List Nat} {bt o p : Bool} (v : Value) (w : World) (hv : URow w v xs) (hw : Wf xs) (hc : chk xs.length = 0) (hy : mkRow xs.length (shF xs bt) = ys) (hz : mkRow xs.length (baF xs bt) = zs)
    (ho : rbit xs (64 * xs.length - 1) = o) (hp : rbit xs 0 = p) :
    Calls Try.prog 36 #[v, .bool bt] w fun e w' => ∃ a b, e = .returned (.tuple #[a, b, .agg #[.bool o, .bool p], .bool true]) ∧ URow w' a ys ∧ URow w' b zs ∧ Below w.heap.size w w' := by
  have S := Lib.hid (fun w' (h : Below w.heap.size w w') => shift_ok v xs ys bt o w' (hv.below h) hw hc hy ho)
  have B := Lib.hid (fun w' (h : Below w.heap.size w w') => back_ok v xs zs bt p w' (hv.below h) hw hc hz hp)
  clear hy hz ho hp hc hw hv
  go_enter Try.func36, Try.ntmps36
  go_wp2_with (first
    | (go_at_call 26; refine (S.out _ ((Below.refl _ w).alloc (Nat.le_refl _) _)).mono ?_; rintro e w1 ⟨a, rfl, ra, hb2⟩
       have hx1 := (hb2.block w.heap.size (by simp)).trans (World.alloc_heap_new w _)
       have hb1 : Below w.heap.size w w1 := ((Below.refl _ w).alloc (Nat.le_refl _) _).trans (hb2.mono (by simp))
       have hz1 : w.heap.size < w1.heap.size := (Array.getElem?_eq_some_iff.1 hx1).1
       clear hb2)
    | (go_at_call 28; refine (B.out _ hb1).mono ?_; rintro e w2 ⟨b, rfl, rb, hb3⟩
       have hx2 := (hb3.block _ hz1).trans hx1
       have hc0 : w2.cell? ⟨w.heap.size, 0, none⟩ = some (.bool false) := by simp [World.cell?, hx2]
       have hc1 : w2.cell? ⟨w.heap.size, 1, none⟩ = some (.bool false) := by simp [World.cell?, hx2]
       have hf0 : w2.frozen? ⟨w.heap.size, 0, none⟩ = false := by simp [World.frozen?, hx2]
       have hf1 : w2.frozen? ⟨w.heap.size, 1, none⟩ = false := by simp [World.frozen?, hx2]
       have hb4 : Below w.heap.size w w2 := hb1.trans (hb3.mono hb1.size)
       have hra := ra.below hb3
       clear hx1 hx2 hb3 hz1 ra hb1))
  have hc2 : (w2.setCell ⟨w.heap.size, 0, none⟩ (.bool o)).cell? ⟨w.heap.size, 1, none⟩ = some (.bool false) := by rw [World.cell?_setCell_other (h := fun e => by cases e), hc1]
  have hd1 : ((w2.setCell ⟨w.heap.size, 0, none⟩ (.bool o)).setCell ⟨w.heap.size, 1, none⟩ (.bool p)).cell? ⟨w.heap.size, 1, none⟩ = some (.bool p) := World.cell?_setCell_same _ _ _ hc2
  have hd0 : ((w2.setCell ⟨w.heap.size, 0, none⟩ (.bool o)).setCell ⟨w.heap.size, 1, none⟩ (.bool p)).cell? ⟨w.heap.size, 0, none⟩ = some (.bool o) := by rw [World.cell?_setCell_other (h := fun e => by cases e)]; exact World.cell?_setCell_same _ _ _ hc0
  refine bodyPost_ret (v := .tuple #[a, b, .agg #[.bool o, .bool p], .bool true]) ?_ rfl ?_
  · simp [results, Try.results36, go_sem, hd0, hd1]
  · exact ⟨a, b, rfl, (hra.setB hc0).setB hc2, (rb.setB hc0).setB hc2, (hb4.setCell (Nat.le_refl _) _).setCell (Nat.le_refl _) _⟩
end Go.Proofs.Ytnegnmjjibhldaa
