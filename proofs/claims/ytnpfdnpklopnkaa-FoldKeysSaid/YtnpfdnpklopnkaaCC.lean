/- Layer 3: a region whose operations only read old blocks and whose callees only make new ones; Sub; the reference's Add and Drop. -/
import Derived.Test.YtnpfdnpklopnkaaCB
namespace Go.Proofs.Ytnpfdnpklopnkaa
open Go.RowKit
attribute [local go_sem] eq4 guard4
section
variable {P : Program} {a : Act} {w : World} {Q : Exit → Act → World → Prop}
/-- Whatever order is drawn: one walk in the text's order, over all worlds that are as w below n. -/
theorem wp_region_below {id : Nat} {l : List Oper} {n : Nat} (_ : n ≤ w.heap.size) (hm : P.follows .mixedOrders = true) (hB : Region.lexB .any l.toArray = true)
    (h : wpQuiet P l.toArray (fun w' => Below n w w') (fun a' => ∀ w', Below n w w' → Q .normal a' w') l a) : (Code.region id l.toArray true).wp P Q a w :=
  wp_region_quiet (C := fun w' => Below n w w') hm hB ⟨rfl, rfl, rfl, Nat.le_refl _, fun _ _ => rfl⟩ (by simpa using h)
theorem quiet_get {o : Oper} {K : Act → Prop} {n : Nat} (x : Operand) (ho : o.op = .load 26 x) (B : Nat) (hx : a.eval x = .pointer (some ⟨B, 0, none⟩)) (p : Nat → Bool) (hs : SA w B p) (hB : B < n)
    (h : K (a.put o.dst (sv p))) : o.quiet Try.prog a (fun w' => Below n w w') K :=
  ⟨sv p, fun w' hw => by
    unfold Oper.quietAt execOp
    simp only [ho, hx, Instr.loadAt, Instr.sureAddr, Sem.run_bind, Sem.run_pure, Result.andThen_ok, run_loadVar_row w' B _ 26 _ _ _ (hs.below hw hB) Try.underlying26 rfl (by kernel_rfl)]
    exact ⟨rfl, rfl⟩, h⟩
theorem Calls.quiet_below {f : FuncId} {args : Array Value} {n : Nat} {w' : World} {v : Value} {R : Ending → World → Prop} (h : Calls P f args w' R) (hw : Below n w w') (hn : n ≤ w.heap.size)
    (hR : ∀ e w'', R e w'' → e = .returned v ∧ Below w'.heap.size w' w'') : Calls P f args w' fun e w'' => e = .returned v ∧ Below n w w'' :=
  h.mono fun e w'' hh => by
    obtain ⟨he, hb⟩ := hR e w'' hh
    exact ⟨he, hw.trans (hb.mono (Nat.le_trans hn hw.size))⟩
end
/-- Is each byte of p in q? -/
def subB (p q : Nat → Bool) : Bool := eqS (fun i => p i || q i) q
end Go.Proofs.Ytnpfdnpklopnkaa
