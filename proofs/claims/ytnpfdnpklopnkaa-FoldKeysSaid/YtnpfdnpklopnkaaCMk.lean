/- Layer 3: Of, Range, Has, Add, Drop as the reference. -/
import Derived.Test.YtnpfdnpklopnkaaCCo
namespace Go.Proofs.Ytnpfdnpklopnkaa
open Go.RowKit
attribute [local go_sem] eq4 guard4 eqS_self
theorem u8_of (x : Int) : ∃ c : Nat, c < 256 ∧ IntKind.u8.wrap x = (c : Int) := by
  refine ⟨(x % 256).toNat, by omega, ?_⟩
  rw [IntKind.wrap_u8]; omega
theorem Calls.quiet_bool {P : Program} {w : World} {f : FuncId} {args : Array Value} {n : Nat} {w' : World} {b : Bool} (h : Calls P f args w' fun e w'' => e = .returned (.bool b) ∧ Below w'.heap.size w' w'') (hw : Below n w w') (hn : n ≤ w.heap.size) :
    Calls P f args w' fun e w'' => e = .returned (.bool b) ∧ Below n w w'' := Calls.quiet_below h hw hn (fun _ _ h => h)
end Go.Proofs.Ytnpfdnpklopnkaa
