/- A region in the text's order whose operations only read old blocks and whose callees only make new ones, by the quiet walk (it decides guards cheaply). No program. -/
import Derived.Deep.Quiet
import Derived.Below
import Derived.Tactics
namespace Go.Proofs.Ytnpfdnpklopnkaa
open Go.RowKit
section
variable {P : Program} {ops : Array Oper} {C : World → Prop}
theorem wpList_of_quiet {K : Act → Prop} {Q : Exit → Act → World → Prop} (hQ : ∀ a' w', C w' → K a' → Q .normal a' w') : ∀ (l : List Oper) (a : Act) (w : World), C w → wpQuiet P ops C K l a → wpList P ops Q l a w
  | [], a, w, hC, h => hQ a w hC h
  | o :: rest, a, w, hC, h => by
    unfold wpQuiet at h
    unfold wpList
    split
    · rename_i hw
      rw [if_pos hw] at h
      exact .inl (Oper.wp_of_quiet hC (fun a' w' hw' h' => wpList_of_quiet hQ rest a' w' hw' h') h)
    · rename_i hw
      rw [if_neg hw] at h
      exact wpList_of_quiet hQ rest _ w hC h
theorem wp_region_seq_below {id : Nat} {l : List Oper} {n : Nat} {a : Act} {w : World} {Q : Exit → Act → World → Prop}
    (h : wpQuiet P l.toArray (fun w' => Below n w w') (fun a' => ∀ w', Below n w w' → Q .normal a' w') l a) : (Code.region id l.toArray false).wp P Q a w :=
  wp_region_lit (wpList_of_quiet (C := fun w' => Below n w w') (fun _ w' hC hK => hK w' hC) l a w (Below.refl _ _) h)
end
end Go.Proofs.Ytnpfdnpklopnkaa
