/- A region that draws its order, in a round of a range over a function: by the plain walk. No program. -/
import Derived.StillTail
import Derived.OrdersIn
import Derived.RangeFuncNested
import Derived.RangeFuncCalls
namespace Go.Proofs.Ytalnhbjpfnodiaa.RY
open Go.RowKit
section
variable {m l : Nat} {P : Program} {ops : Array Oper} {Q : Exit → Act → World → Prop} {md : Region.Mode}
theorem wp_round {o : Oper} {a : Act} {w : World} {K : Act → World → Prop} (hd : ∀ c, o.op ≠ .defer c) (h : o.wp P a w K Q) : o.wpIn (Fence.wide.inRound l) m P a w K Q := by
  refine ⟨fun _ _ => trivial, ?_⟩
  rw [Oper.semAt_eq _ _ _ hd]
  unfold Oper.wp at h
  generalize (execOp a.eval o).run P w = r at h
  have key : ∀ (f : Nat) (args : Array Value) (w' : World), Calls P f args w' (fun
      | .returned v, w'' => K (a.put o.dst v) w''
      | .panicked chain, w'' => Q (.panic chain) a w''
      | .outgrown, _ => LetsOut Q) → CallsIn (Fence.wide.inRound l) (m - 1) P f args w' (fun
      | .returned v, w'' => K (a.put o.dst v) w''
      | .panicked chain, w'' => Q (.panic chain) a w''
      | .outgrown, _ => LetsOut Q) := fun f args w' hc => CallsIn.inRound l ((callsIn_wide (n := m - 1)).2 hc)
  cases r with
  | ok x w' =>
    cases x with
    | value v => exact h
    | skip => exact h
    | «defer» d => exact h
    | enter f args => exact ⟨fun hf => absurd (show false = true from hf) (by decide), key f args w' h⟩
    | row r args =>
      refine ⟨fun hf => absurd (show false = true from hf) (by decide), fun c cs _ => ?_⟩
      obtain ⟨v, w2, hr, hs⟩ := h c cs
      exact ⟨v, w2, hr, stepsIn_wide.2 hs⟩
    | _ => exact h.elim
  | halt x w' =>
    cases x <;> first | exact h | exact h.elim
theorem any_round (hd : ∀ (i : Nat) (o : Oper), ops[i]? = some o → ∀ c, o.op ≠ .defer c) (hq : ¬ LetsOut Q) : ∀ (fuel : Nat) (listed : Array Bool) (a : Act) (w : World), wpAny P md ops Q fuel listed a w → wpAnyIn (Fence.wide.inRound l) m P md ops Q fuel listed a w
  | 0, _, _, _, h => h
  | fuel + 1, listed, a, w, h => by
    refine ⟨h.1, fun i hi => ?_⟩
    have hi := h.2 i hi
    unfold wpOp at hi
    unfold wpOpIn
    cases ho : ops[i]? with
    | none =>
      rw [ho] at hi
      exact any_round hd hq fuel _ _ _ hi
    | some o =>
      rw [ho] at hi
      dsimp only at hi ⊢
      split
      · rename_i hw
        rw [if_pos hw] at hi
        rcases hi with hi | hi
        · exact Oper.wpIn_mono (fun a w => any_round hd hq fuel _ a w) (wp_round (hd i o ho) hi)
        · exact absurd hi.2 hq
      · rename_i hw
        rw [if_neg hw] at hi
        exact ⟨fun _ _ => trivial, any_round hd hq fuel _ _ _ hi⟩
/-- What stands in a region has no deferred call. -/
def noDefer (l : List Oper) : Bool := l.all fun o => match o.op with | .defer _ => false | _ => true
theorem noDefer_spec {l : List Oper} (h : noDefer l = true) : ∀ (i : Nat) (o : Oper), l.toArray[i]? = some o → ∀ c, o.op ≠ .defer c := by
  intro i o hi c hc
  have hm : o ∈ l := by rw [List.getElem?_toArray] at hi; exact List.mem_of_getElem? hi
  have := List.all_eq_true.1 h o hm
  rw [hc] at this
  cases this
theorem region_still_round {id : Nat} {a : Act} {w : World} {L : List Oper} (k : Nat) (hm : P.follows .mixedOrders = true) (hB : Region.lexTailB .any L.toArray k = true) (hd : noDefer L = true) (hq : ¬ LetsOut Q)
    (h : wpStill P L.toArray { w with drawn := w.drawn + 1 } (fun a' => wpList P L.toArray Q (L.drop k) a' { w with drawn := w.drawn + 1 }) (L.take k) a) : (Code.region id L.toArray true).wpIn (Fence.wide.inRound l) m P Q a w := by
  refine wpIn_region_any hm (any_round (noDefer_spec hd) hq _ _ _ _ ?_)
  simp only [Region.lexTailB, Bool.and_eq_true, decide_eq_true_eq] at hB
  have hB1 := hB.1
  have hn' : k < L.length := by simpa using hB1.1.1.2
  have e1 : (L.take k).length = k := by simp; omega
  have e2 : (L.drop k).length = L.toArray.size - k := by simp
  have H := wpAnyL_lex (md := .any) (g := L.toArray.size - k) hB1.1.1.1 hB1.1.2 hB1.2 hB1.1.1.2 (L.take k) 0 _ a (fun j hj => by
      rw [e1] at hj; simp [hj]) (by simpa using e1)
    (⟨by simp, fun j oj _ hl => (by rw [getD_replicate_false] at hl; cases hl), fun t _ ht => getD_in (by simpa using ht) (getD_replicate_false _ _)⟩ : HeadInv .any L.toArray k (Array.replicate L.toArray.size false))
    (by rw [e1]; exact hB.2) h
  have R := wpAny_of_head (Q' := Q) (g := L.toArray.size - k) (fun s a' hL => by
    have T := wpAny_of_seq (md := .any) (Q' := Q) (L.drop k) k s a' { w with drawn := w.drawn + 1 } (fun j => by simp [List.getElem?_drop]) (by rw [e2]; exact hL.1) hL.2
    rwa [e2] at T) _ _ _ H
  rwa [e1, show k + (L.toArray.size - k) = L.toArray.size by omega] at R
end
end Go.Proofs.Ytalnhbjpfnodiaa.RY
