/- A range over a function whose iterator keeps state of its own in cells: the rounds keep the iterator's cells ('KpX'), and what the caller knows abides turns of blocks that are not its own. No program. -/
import Derived.RangeFuncNested
import Derived.RangeFuncLeaves
namespace Go.Proofs.YtoapfldmkpobmaaGreatDoor.RX
open Go.RowKit
/-- What a round keeps: all blocks below A; every block of cells at or behind B that is not the caller's own; such a block does not become the caller's own. -/
def KpX (A B : Nat) (Own : World → Nat → Prop) (W W' : World) : Prop :=
  W.heap.size ≤ W'.heap.size ∧ (∀ k, k < A → W'.heap[k]? = W.heap[k]?) ∧ ∀ k cs t fr, B ≤ k → W.heap[k]? = some (.cells cs t fr) → ¬ Own W k → W'.heap[k]? = some (.cells cs t fr) ∧ ¬ Own W' k
/-- Which blocks are the caller's own is told by the blocks below B. -/
def OwnB (B : Nat) (Own : World → Nat → Prop) : Prop := ∀ X Y k, (∀ j, j < B → Y.heap[j]? = X.heap[j]?) → Own X k → Own Y k
/-- What abides turns of blocks at or behind B that are not the caller's own. -/
def AbX {β : Type} (B : Nat) (Own : World → Nat → Prop) (J : β → World → Prop) : Prop :=
  ∀ s W W' row, J s W → W.grownBy W' row → (∀ r, row = some r → B ≤ r ∧ ¬ Own W r) → J s W'
def SeqX {α : Type} (F : Fence) (n : Nat) (P : Program) (g : Nat) (lb : Array Value) (encs : α → Array Value) (A B : Nat) (Own : World → Nat → Prop) (S Sp : List α → Prop) (N : Nat) (w : World) : Prop :=
  ∀ (l : Nat) (J Jx : List α → World → Prop) (W : World), Below w.heap.size w W → B ≤ W.heap.size → (∀ r, Own W r → r < W.heap.size) → AbX W.heap.size Own J → AbX W.heap.size Own Jx →
    (∀ pre x W1, J pre W1 → pre.length < N → YieldAt F (n - 1) P l (encs x) W1 fun e W' =>
      (e = .returned (.bool true) ∧ J (pre ++ [x]) W' ∧ KpX A B Own W1 W') ∨ (e = .returned (.bool false) ∧ Jx (pre ++ [x]) W')) →
    J [] W →
    CallsIn F n P g (#[.func (.yield l) #[] #[]] ++ lb) W fun e W' => (∃ v, e = .returned v) ∧ ((∃ xs, S xs ∧ J xs W') ∨ (∃ pre, Sp pre ∧ Jx pre W'))
theorem KpX.refl (A B : Nat) (Own : World → Nat → Prop) (W : World) : KpX A B Own W W := ⟨Nat.le_refl _, fun _ _ => rfl, fun _ _ _ _ _ h ho => ⟨h, ho⟩⟩
theorem KpX.trans {A B : Nat} {Own : World → Nat → Prop} {X Y Z : World} (h : KpX A B Own X Y) (k : KpX A B Own Y Z) : KpX A B Own X Z :=
  ⟨Nat.le_trans h.1 k.1, fun i hi => (k.2.1 i hi).trans (h.2.1 i hi), fun i cs t fr hB hi ho => let ⟨a, b⟩ := h.2.2 i cs t fr hB hi ho; k.2.2 i cs t fr hB a b⟩
/-- A step that turns a block of no cells at or behind B. -/
theorem KpX.putObj {A B : Nat} {Own : World → Nat → Prop} (hA : A ≤ B) (hO : OwnB B Own) (W : World) (l : Nat) (o o' : Obj) (hl : B ≤ l) (hr : W.heap[l]? = some o) (hc : o.isCells = false) : KpX A B Own W (W.putObj l o') := by
  refine ⟨by simp, fun k hk => World.putObj_heap_other (by omega), fun k cs t fr _ hk ho => ?_⟩
  have hne : k ≠ l := by rintro rfl; rw [hr] at hk; cases hk; cases hc
  refine ⟨(World.putObj_heap_other hne).trans hk, fun h => ho (hO _ _ k (fun j hj => ?_) h)⟩
  exact (World.putObj_heap_other (by omega)).symm
/-- A step that lays new blocks, and turns none that lay. -/
theorem KpX.below {A B : Nat} {Own : World → Nat → Prop} (hA : A ≤ B) (hO : OwnB B Own) {W W' : World} (h : Below W.heap.size W W') (hB : B ≤ W.heap.size) : KpX A B Own W W' := by
  refine ⟨h.size, fun k hk => h.block k (by omega), fun k cs t fr _ hk ho => ?_⟩
  have hlt := (Array.getElem?_eq_some_iff.1 hk).1
  exact ⟨(h.block k (by omega)).trans hk, fun h' => ho (hO _ _ k (fun j hj => (h.block j (by omega)).symm) h')⟩
/-- A store into one of the caller's own boxes, from A on and below B. -/
theorem KpX.setCell {A B : Nat} {Own : World → Nat → Prop} {W : World} {p : Addr} (v : Value) (ha : A ≤ p.block) (hp : p.block < B) (hO : ∀ k, B ≤ k → ¬ Own W k → (∃ o, W.heap[k]? = some o) → ¬ Own (W.setCell p v) k) : KpX A B Own W (W.setCell p v) := by
  refine ⟨by simp [World.setCell], fun k hk => Below.heap_setCell W p v k (by omega), fun k cs t fr hB hk ho => ⟨?_, hO k hB ho ⟨_, hk⟩⟩⟩
  exact (Below.heap_setCell W p v k (by omega)).trans hk

variable {F : Fence} {n : Nat} {P : Program} {w : World}
def postX {α : Type} (A B : Nat) (Own : World → Nat → Prop) (I : List α → World → Prop) (Ix : Code → List α → World → Prop) (xs : List α) (W W2 : World) : Exit → Act → World → Prop
  | .normal, _, W3 => KeepsFrom B W2 W3 ∧ KpX A B Own W W3 ∧ I xs W3
  | .ret, _, W3 => KeepsFrom B W2 W3 ∧ Ix .ret xs W3
  | .exit id, _, W3 => KeepsFrom B W2 W3 ∧ Ix (.exit id) xs W3
  | .goto t, _, W3 => KeepsFrom B W2 W3 ∧ Ix (.goto t) xs W3
  | .panic _, _, _ => False
  | .outgrown, _, _ => False
theorem not_own_block {B : Nat} {W W' : World} {row : Option Nat} {k : Nat} {o : Obj} (hg : W.grownBy W' row) (hr : ∀ r, row = some r → B ≤ r) (hk : W.heap[k]? = some o) (hlt : k < B) : W'.heap[k]? = some o :=
  (hg.block k (Array.getElem?_eq_some_iff.1 hk).1 (fun e => by have := hr k e.symm; omega)).trans hk
theorem putObj_ab {β : Type} {B : Nat} {Own : World → Nat → Prop} {J : β → World → Prop} (hJ : AbX B Own J) {s : β} {W : World} {l : Nat} (o' : Obj) (hs : J s W) (hB : B ≤ l) (hno : ¬ Own W l) : J s (W.putObj l o') :=
  hJ s W _ (some l) hs (grownBy_putObj' W l o') (fun r e => by cases e; exact ⟨hB, hno⟩)
/-- **The law.** -/
theorem rangeX {α : Type} {g : Operand} {ps : Array Tmp} {assign body : Code} {Q : Exit → Act → World → Prop} {a : Act}
    (hro : F.round = none) (h1 : 1 ≤ n) {gf : Nat} {lb : Array Value} (hg : a.eval g = .func (.func gf) #[] lb) (hFg : F.fn gf) (eg : ∀ args w, (callFunc gf args).run P w = .ok (.enter gf args) w)
    {encs : α → Array Value} {A : Nat} {Own : World → Nat → Prop} {S Sp : List α → Prop} {N : Nat} {w0 : World} (hseq : SeqX F (n - 1) P gf lb encs A w.heap.size Own S Sp N w0) (hA : A ≤ w.heap.size)
    (hO : OwnB w.heap.size Own) (hno : ∀ W, ¬ Own W (w.heap.size + 1)) (hO0 : ∀ r, Own w r → r < w.heap.size) (hb0 : Below w0.heap.size w0 w) (hps : ∀ x, (encs x).size = ps.size)
    (I : List α → World → Prop) (Ix : Code → List α → World → Prop) (hI : AbX w.heap.size Own I) (hIx : ∀ c, AbX w.heap.size Own (Ix c)) (h0 : I [] w)
    (hround : ∀ (l : Nat) (pre : List α) (x : α) (W : World), l = w.heap.size + 1 → (∃ r, W.heap[l]? = some (.loop r)) → I pre W → pre.length < N →
      assign.wpIn (F.inRound l) (n - 1 - 1) P (Exit.then (fun a1 W1 => KeepsFrom w.heap.size W W1 ∧ ∀ r', body.wpIn (F.inRound l) (n - 1 - 1) P (postX A w.heap.size Own I Ix (pre ++ [x]) W (W1.putObj l (.loop r'))) a1 (W1.putObj l (.loop r'))) (fun _ _ _ => False))
        { tmps := (ps.zip (encs x)).foldl (fun t (p, v) => t.setIfInBounds p v) a.tmps, defers := [] } W)
    (hdone : ∀ (D : Nat) (xs : List α) (W : World), w.heap.size ≤ D → S xs → I xs W → W.heap[D]? = some (.deferred (some [])) → Q .normal { a with defers := { target := .collected D, args := #[] } :: a.defers } W)
    (hstop : ∀ (D : Nat) (c : Code) (pre : List α) (W : World), w.heap.size ≤ D → Sp pre → Ix c pre W → W.heap[D]? = some (.deferred (some [])) → c.wpIn F n P Q { a with defers := { target := .collected D, args := #[] } :: a.defers } W) :
    (Code.rangeFunc g ps assign body).wpIn F n P Q a w := by
  refine wpIn_rangeFunc fun fn hfn => ?_
  rw [hro]
  obtain ⟨rec, hrec⟩ : ∃ rec : LoopState → Option Code → Loop, rec = fun st pe => { state := st, pending := pe, fn, tmps := a.tmps, params := ps, assign, body, defers := w.heap.size } := ⟨_, rfl⟩
  obtain ⟨W1, hW1⟩ : ∃ W1, W1 = (w.alloc (.deferred (some []))).alloc (.loop (rec .ready none)) := ⟨_, rfl⟩
  have hsz : W1.heap.size = w.heap.size + 2 := by rw [hW1]; simp
  have hbw : Below w.heap.size w W1 := by rw [hW1]; exact ((Below.refl _ w).alloc (Nat.le_refl _) _).alloc (by simp) _
  have hL : W1.heap[w.heap.size + 1]? = some (.loop (rec .ready none)) := by
    rw [hW1]; have := World.alloc_heap_new (w.alloc (.deferred (some []))) (.loop (rec .ready none)); rwa [World.size_alloc] at this
  have hD : W1.heap[w.heap.size]? = some (.deferred (some [])) := by
    rw [hW1]; exact (Below.heap_alloc _ _ _ (by simp)).trans (World.alloc_heap_new w _)
  have hI1 : I [] W1 := by
    have e1 := hI [] w _ none h0 (World.grownBy_alloc w (.deferred (some [])) none) (fun r e => by cases e)
    rw [hW1]; exact hI [] _ _ none e1 (World.grownBy_alloc _ _ none) (fun r e => by cases e)
  have hnl : ∀ W st pe, W.heap[w.heap.size + 1]? = some (.loop (rec st pe)) → ¬ Own W (w.heap.size + 1) := fun W _ _ _ => hno W
  refine ⟨w.heap.size + 1, [{ target := .collected w.heap.size, args := #[] }], W1, { target := .fn (.func gf) lb, args := #[.func (.yield (w.heap.size + 1)) #[] #[]] }, W1, gf, #[.func (.yield (w.heap.size + 1)) #[] #[]] ++ lb, W1, ?_, ?_, ?_, ?_, fun _ => h1, ?_⟩
  · rw [hW1, hrec]; exact run_enterLoop_outer _ _ _ _ _
  · simp only [resolve, hg]; simp [go_sem]
  · intro f' hf'; simp [Target.leads] at hf'; subst hf'; exact hFg
  · simp [invoke, go_sem, eg]
  -- what the two blocks of the loop hold, beside the caller's own word
  have key : ∀ {β : Type} (J : β → World → Prop) (st : LoopState) (pe : Option Code), AbX w.heap.size Own J → AbX W1.heap.size Own (fun s W => J s W ∧ W.heap[w.heap.size + 1]? = some (.loop (rec st pe)) ∧ W.heap[w.heap.size]? = some (.deferred (some []))) :=
    fun J st pe hJ s X Y row hs hgr hr => ⟨hJ s X Y row hs.1 hgr (fun r e => ⟨by have := (hr r e).1; omega, (hr r e).2⟩), not_own_block hgr (fun r e => (hr r e).1) hs.2.1 (by omega), not_own_block hgr (fun r e => (hr r e).1) hs.2.2 (by omega)⟩
  refine (hseq (w.heap.size + 1) (fun pre W => I pre W ∧ W.heap[w.heap.size + 1]? = some (.loop (rec .ready none)) ∧ W.heap[w.heap.size]? = some (.deferred (some [])))
    (fun pre W => ∃ c, Ix c pre W ∧ W.heap[w.heap.size + 1]? = some (.loop (rec .done (some c))) ∧ W.heap[w.heap.size]? = some (.deferred (some [])))
    W1 (hb0.trans (hbw.mono hb0.size)) (by omega) (fun r hr => by have := hO0 r (hO _ _ r (fun j hj => (hbw.block j hj).symm) hr); omega) (key I _ _ hI)
    (fun s X Y row hs hgr hr => by obtain ⟨c, hs⟩ := hs; exact ⟨c, key (Ix c) _ _ (hIx c) s X Y row hs hgr hr⟩) ?_ ⟨hI1, hL, hD⟩).mono ?_
  · rintro pre x W ⟨hi, hl, hk⟩ hlen
    have hy := run_yield (P := P) (args := encs x) hl (by rw [hrec]; exact hps x)
    rw [hrec] at hy
    refine ⟨fn, _, assign, body, hy, roundIn_of_wpIn hfn (wpIn_mono (hround _ pre x W rfl ⟨_, hl⟩ hi hlen) ?_)⟩
    clear hy
    rintro e a1 Wa he
    cases e with
    | normal =>
      obtain ⟨hka, hb⟩ := he
      have hla := hka.same _ _ (by omega) hl rfl
      have hda := hka.same _ _ (Nat.le_refl _) hk rfl
      refine ⟨_, run_beginRound hla (by rw [hrec]), wpIn_mono (hb _) ?_⟩
      obtain ⟨bs, hbs⟩ : ∃ bs : Loop, bs = { rec .ready none with state := .busy } := ⟨_, rfl⟩
      rw [← hbs]
      have hl2 : (Wa.putObj (w.heap.size + 1) (.loop bs)).heap[w.heap.size + 1]? = some (.loop bs) := World.putObj_heap_same (Array.getElem?_eq_some_iff.1 hla).1
      have hd2 : (Wa.putObj (w.heap.size + 1) (.loop bs)).heap[w.heap.size]? = some (.deferred (some [])) := (World.putObj_heap_other (by omega)).trans hda
      have leave : ∀ (jump : Option Code) (W3 : World), KeepsFrom w.heap.size (Wa.putObj (w.heap.size + 1) (.loop bs)) W3 →
          ∃ W4, W4 = W3.putObj (w.heap.size + 1) (.loop (rec (if jump.isNone then .ready else .done) jump)) ∧ (Instr.endRound (w.heap.size + 1) jump).run P W3 = .ok (.bool jump.isNone) W4 ∧
            W3.heap[w.heap.size + 1]? = some (.loop bs) ∧ W4.heap[w.heap.size + 1]? = some (.loop (rec (if jump.isNone then .ready else .done) jump)) ∧ W4.heap[w.heap.size]? = some (.deferred (some [])) := by
        intro jump W3 h3
        have hl3 := h3.same _ _ (by omega) hl2 rfl
        have hend := run_endRound (P := P) jump hl3
        refine ⟨_, rfl, ?_, hl3, World.putObj_heap_same (Array.getElem?_eq_some_iff.1 hl3).1, (World.putObj_heap_other (by omega)).trans (h3.same _ _ (Nat.le_refl _) hd2 rfl)⟩
        rw [hend, hbs, hrec]
      have nob : ∀ W3 : World, W3.heap[w.heap.size + 1]? = some (.loop bs) → ¬ Own W3 (w.heap.size + 1) := fun W3 _ => hno W3
      rintro e a3 W3 hp
      cases e with
      | normal =>
        obtain ⟨h3, hkp, hi3⟩ := hp
        obtain ⟨W4, e4, hr, hl3, hl4, hd4⟩ := leave none W3 h3
        refine ⟨_, W4, hr, .inl ⟨rfl, ⟨?_, hl4, hd4⟩, ?_⟩⟩
        · rw [e4]; exact putObj_ab hI _ hi3 (by omega) (nob W3 hl3)
        · rw [e4]; exact hkp.trans (KpX.putObj hA hO _ _ _ _ (by omega) hl3 rfl)
      | ret =>
        obtain ⟨W4, e4, hr, hl3, hl4, hd4⟩ := leave (some .ret) W3 hp.1
        exact ⟨_, W4, hr, .inr ⟨rfl, .ret, by rw [e4]; exact putObj_ab (hIx _) _ hp.2 (by omega) (nob W3 hl3), hl4, hd4⟩⟩
      | exit id =>
        obtain ⟨W4, e4, hr, hl3, hl4, hd4⟩ := leave (some (.exit id)) W3 hp.1
        exact ⟨_, W4, hr, .inr ⟨rfl, .exit id, by rw [e4]; exact putObj_ab (hIx _) _ hp.2 (by omega) (nob W3 hl3), hl4, hd4⟩⟩
      | goto t =>
        obtain ⟨W4, e4, hr, hl3, hl4, hd4⟩ := leave (some (.goto t)) W3 hp.1
        exact ⟨_, W4, hr, .inr ⟨rfl, .goto t, by rw [e4]; exact putObj_ab (hIx _) _ hp.2 (by omega) (nob W3 hl3), hl4, hd4⟩⟩
      | panic ch => exact hp.elim
      | outgrown => exact hp.elim
    | _ => exact he
  · rintro e W2 ⟨⟨v, rfl⟩, ⟨xs, hS, hi, hl, hk⟩ | ⟨pre, hSp, c, hi, hl, hk⟩⟩
    · have hend := run_endLoop (P := P) hl (by rw [hrec]; simp)
      rw [hrec] at hend
      exact ⟨none, _, hend, hdone _ xs _ (Nat.le_refl _) hS (putObj_ab hI _ hi (by omega) (hnl _ _ _ hl)) ((World.putObj_heap_other (by omega)).trans hk)⟩
    · have hend := run_endLoop (P := P) hl (by rw [hrec]; simp)
      rw [hrec] at hend
      exact ⟨some c, _, hend, hstop _ c pre _ (Nat.le_refl _) hSp (putObj_ab (hIx c) _ hi (by omega) (hnl _ _ _ hl)) ((World.putObj_heap_other (by omega)).trans hk)⟩
end Go.Proofs.YtoapfldmkpobmaaGreatDoor.RX
