/- A range over a function whose rounds always go on: told by the loop's two blocks and by what the caller's walk of the iterator says. No program. -/
import Derived.RangeFuncNested
import Derived.RangeFuncLeaves
namespace Go.Proofs.Ytalnhbjpfnodiaa.RY
open Go.RowKit
variable {F : Fence} {n : Nat} {P : Program}
/-- What the loop's two blocks hold between the rounds. -/
def Two (D : Nat) (o : Obj) (W : World) : Prop := W.heap[D + 1]? = some o ∧ W.heap[D]? = some (.deferred (some []))
theorem Two.to {D : Nat} {o : Obj} {W W' : World} (h : Two D o W) (h1 : W'.heap[D + 1]? = W.heap[D + 1]?) (h2 : W'.heap[D]? = W.heap[D]?) : Two D o W' := ⟨h1.trans h.1, h2.trans h.2⟩
theorem Two.lt {D : Nat} {o : Obj} {W : World} (h : Two D o W) : D + 1 < W.heap.size := (Array.getElem?_eq_some_iff.1 h.1).1
theorem Two.put {D : Nat} {o o' : Obj} {W : World} (h : Two D o W) : Two D o' (W.putObj (D + 1) o') := ⟨World.putObj_heap_same h.lt, (World.putObj_heap_other (by omega)).trans h.2⟩
theorem Two.below {D : Nat} {o : Obj} {W W' : World} (h : Two D o W) (hb : Below W.heap.size W W') : Two D o W' := h.to (hb.block _ h.lt) (hb.block _ (by have := h.lt; omega))
/-- What the body of a round owes. -/
def PostY (D : Nat) (r : Loop) (post : World → Prop) (e : Exit) (_ : Act) (W3 : World) : Prop := e = .normal ∧ Two D (.loop r) W3 ∧ ∀ r', post (W3.putObj (D + 1) (.loop r'))
/-- **The law.** -/
theorem rangeY {g : Operand} {ps : Array Tmp} {assign body : Code} {Q : Exit → Act → World → Prop} {a : Act} {w : World}
    (hro : F.round = none) (h1 : 1 ≤ n) {gf : Nat} {lb : Array Value} (hg : a.eval g = .func (.func gf) #[] lb) (hFg : F.fn gf) (eg : ∀ args w, (callFunc gf args).run P w = .ok (.enter gf args) w)
    (J : World → Prop)
    (hseq : ∀ o : Obj, o.isCells = false → Two w.heap.size o ((w.alloc (.deferred (some []))).alloc o) →
      (∀ (args : Array Value) (W : World) (post : World → Prop), Two w.heap.size o W → args.size = ps.size →
        assign.wpIn (F.inRound (w.heap.size + 1)) (n - 1 - 1) P (Exit.then (fun a1 W1 => Two w.heap.size o W1 ∧ ∀ r', body.wpIn (F.inRound (w.heap.size + 1)) (n - 1 - 1) P (PostY w.heap.size r' post) a1 (W1.putObj (w.heap.size + 1) (.loop r'))) (fun _ _ _ => False))
          { tmps := (ps.zip args).foldl (fun t (p, v) => t.setIfInBounds p v) a.tmps, defers := [] } W →
        YieldAt F (n - 1 - 1) P (w.heap.size + 1) args W (fun e W' => e = .returned (.bool true) ∧ Two w.heap.size o W' ∧ post W')) →
      CallsIn F (n - 1) P gf (#[.func (.yield (w.heap.size + 1)) #[] #[]] ++ lb) ((w.alloc (.deferred (some []))).alloc o) fun e W' => (∃ v, e = .returned v) ∧ Two w.heap.size o W' ∧ ∀ r', J (W'.putObj (w.heap.size + 1) (.loop r')))
    (hdone : ∀ W, W.heap[w.heap.size]? = some (.deferred (some [])) → J W → Q .normal { a with defers := { target := .collected w.heap.size, args := #[] } :: a.defers } W) :
    (Code.rangeFunc g ps assign body).wpIn F n P Q a w := by
  refine wpIn_rangeFunc fun fn hfn => ?_
  rw [hro]
  obtain ⟨rec, hrec⟩ : ∃ rec : LoopState → Option Code → Loop, rec = fun st pe => { state := st, pending := pe, fn, tmps := a.tmps, params := ps, assign, body, defers := w.heap.size } := ⟨_, rfl⟩
  obtain ⟨W1, hW1⟩ : ∃ W1, W1 = (w.alloc (.deferred (some []))).alloc (.loop (rec .ready none)) := ⟨_, rfl⟩
  have hT : Two w.heap.size (.loop (rec .ready none)) W1 := by
    rw [hW1]
    refine ⟨?_, (Below.heap_alloc _ _ _ (by simp)).trans (World.alloc_heap_new w _)⟩
    have := World.alloc_heap_new (w.alloc (.deferred (some []))) (.loop (rec .ready none)); rwa [World.size_alloc] at this
  refine ⟨w.heap.size + 1, [{ target := .collected w.heap.size, args := #[] }], W1, { target := .fn (.func gf) lb, args := #[.func (.yield (w.heap.size + 1)) #[] #[]] }, W1, gf, #[.func (.yield (w.heap.size + 1)) #[] #[]] ++ lb, W1, ?_, ?_, ?_, ?_, fun _ => h1, ?_⟩
  · rw [hW1, hrec]; exact run_enterLoop_outer _ _ _ _ _
  · simp only [resolve, hg]; simp [go_sem]
  · intro f' hf'; simp [Target.leads] at hf'; subst hf'; exact hFg
  · simp [invoke, go_sem, eg]
  have hq := hseq (.loop (rec .ready none)) rfl (by rw [← hW1]; exact hT)
  rw [← hW1] at hq
  refine (hq ?_).mono ?_
  · intro args W post hw hsz hwalk
    have hy := run_yield (P := P) (args := args) hw.1 (by rw [hrec]; exact hsz)
    rw [hrec] at hy
    refine ⟨fn, _, assign, body, hy, roundIn_of_wpIn hfn (wpIn_mono hwalk ?_)⟩
    clear hy hwalk
    rintro e a1 Wa he
    cases e with
    | normal =>
      obtain ⟨hta, hb⟩ := he
      refine ⟨_, run_beginRound hta.1 (by rw [hrec]), wpIn_mono (hb _) ?_⟩
      rintro e a3 W3 ⟨rfl, h3, hp⟩
      have hend := run_endRound (P := P) none h3.1
      refine ⟨_, _, hend, rfl, ?_, hp _⟩
      have h4 := h3.put (o' := .loop { ({ rec .ready none with state := .busy } : Loop) with state := .ready, pending := none })
      rw [hrec] at h4 ⊢
      exact h4
    | _ => exact he
  · rintro e W2 ⟨⟨v, rfl⟩, h2, hj⟩
    have hend := run_endLoop (P := P) h2.1 (by rw [hrec]; simp)
    rw [hrec] at hend
    exact ⟨none, _, hend, hdone _ ((World.putObj_heap_other (by omega)).trans h2.2) (hj _)⟩
end Go.Proofs.Ytalnhbjpfnodiaa.RY
