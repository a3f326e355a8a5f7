/- Layer 3: a region whose operations only read old blocks and whose callees only make new ones; Sub; the reference's Add and Drop. -/
import Derived.Test.YtedbhjladpfafaaB
namespace Go.Proofs.Ytedbhjladpfafaa
open Go.RowKit
attribute [local go_sem] eq4 guard4
section
variable {P : Program} {a : Act} {w : World} {Q : Exit → Act → World → Prop}
/-- Whatever order is drawn: one walk in the text's order, over all worlds that are as w below n. -/
theorem wp_region_below {id : Nat} {l : List Oper} {n : Nat} (_ : n ≤ w.heap.size) (hm : P.follows .mixedOrders = true) (hB : Region.lexB .any l.toArray = true)
    (h : wpQuiet P l.toArray (fun w' => Below n w w') (fun a' => ∀ w', Below n w w' → Q .normal a' w') l a) : (Code.region id l.toArray true).wp P Q a w :=
  wp_region_quiet (C := fun w' => Below n w w') hm hB ⟨rfl, rfl, rfl, Nat.le_refl _, fun _ _ => rfl⟩ (by simpa using h)
theorem quiet_get {o : Oper} {K : Act → Prop} {n : Nat} (x : Operand) (ho : o.op = .load 26 x) (B : Nat) (hx : a.eval x = .pointer (some ⟨B, 0, none⟩)) (p : Nat → Bool) (hs : SA w B p) (hB : B < n)
    (h : K (a.put o.dst (sv p))) : o.quiet Try.prog a (fun w' => Below n w w') K :=
  ⟨sv p, fun w' hw => by
    unfold Oper.quietAt execOp
    simp only [ho, hx, Instr.loadAt, Instr.sureAddr, Sem.run_bind, Sem.run_pure, Result.andThen_ok, run_loadVar_row w' B _ 26 _ _ _ (hs.below hw hB) Try.underlying26 rfl (by kernel_rfl)]
    exact ⟨rfl, rfl⟩, h⟩
theorem Calls.quiet_below {f : FuncId} {args : Array Value} {n : Nat} {w' : World} {v : Value} {R : Ending → World → Prop} (h : Calls P f args w' R) (hw : Below n w w') (hn : n ≤ w.heap.size)
    (hR : ∀ e w'', R e w'' → e = .returned v ∧ Below w'.heap.size w' w'') : Calls P f args w' fun e w'' => e = .returned v ∧ Below n w w'' :=
  h.mono fun e w'' hh => by
    obtain ⟨he, hb⟩ := hR e w'' hh
    exact ⟨he, hw.trans (hb.mono (Nat.le_trans hn hw.size))⟩
end
/-- Is each byte of p in q? -/
def subB (p q : Nat → Bool) : Bool := eqS (fun i => p i || q i) q
theorem sub_any (p q : Nat → Bool) (w : World) : Calls Try.prog 28 #[sv p, sv q] w fun e w' => e = .returned (.bool (subB p q)) ∧ Below w.heap.size w w' := by
  obtain ⟨h1, h2, hb⟩ := two_new w p q
  go_enter Try.func28, Try.ntmps28
  go_wp2
  obtain ⟨W, hW⟩ : ∃ W, W = (w.alloc (setO p)).alloc (setO q) := ⟨_, rfl⟩
  rw [← hW] at h1 h2 hb ⊢
  clear hW
  refine wp_region_below (w := W) (Nat.le_refl _) (by kernel_rfl) (by kernel_rfl) ?_
  repeat (first
    | go_big_quiet_skip
    | (go_big_quiet_want; (first
        | ((first | refine quiet_get _ rfl _ rfl _ h1 h1.lt ?_ | refine quiet_get _ rfl _ rfl _ h2 h2.lt ?_); simp only [Act.put, List.setIfInBounds_toArray, List.set_cons_succ, List.set_cons_zero]; go_big_quiet_on)
        | (go_big_quiet_op; (first
            | go_big_quiet_on
            | (refine ⟨_, fun _ _ => rfl, ?_⟩; go_big_quiet_on)
            | (apply Exists.intro; refine ⟨fun w9 hw9 => ?_, ?_⟩; (focus ((go_at_call 20; exact Calls.quiet_below (union_any _ _ _) hw9 (Nat.le_refl _) (fun _ _ h => h)))); go_big_quiet_on))))))
  refine wpQuiet_nil ?_
  intro w2 hb2
  go_wp2
  go_ret
  exact ⟨rfl, hb.trans (hb2.mono hb.size)⟩
end Go.Proofs.Ytedbhjladpfafaa
