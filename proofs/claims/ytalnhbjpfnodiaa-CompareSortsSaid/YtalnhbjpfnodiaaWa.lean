/- The reference's arena in memory. -/
import Derived.Test.YtalnhbjpfnodiaaN
namespace Go.Proofs.Ytalnhbjpfnodiaa
open Go.RowKit
structure RbX (w : World) (F : Nat → Prop) (p cb : Nat) (rv ev : Value) (cs : List Nat) (rs : List Rg) (tr : List (Nat × Nat)) : Prop where
  lt : ∀ k, F k → k < w.heap.size
  blk : w.heap[p]? = some (.cells #[.slice (some ⟨cb, 0, none⟩) cs.length cs.length, rv, ev] 88 (0, 0))
  fp : F p
  cells : w.rowIs cb 22 cs.length (fun i => u64v (cs.getD i 0))
  fc : F cb
  regs : w.ownsRow 0 137 3 rv rs.length (rs.flatMap rcells)
  frv : ∀ k, rv.ownBlock = some k → F k
  evs : w.ownsRow 0 77 2 ev tr.length (tr.flatMap ecl)
  fev : ∀ k, ev.ownBlock = some k → F k
  long : tr.length ≤ 8388608
  ncs : 1 ≤ cs.length ∧ cs.length ≤ 65536
  nrs : rs.length ≤ 64
  wrs : ∀ r ∈ rs, r.base + r.size ≤ cs.length ∧ r.name.size ≤ 16 ∧ 1 ≤ r.size
def Rb (w : World) (F : Nat → Prop) (p : Nat) (cs : List Nat) (rs : List Rg) (tr : List (Nat × Nat)) : Prop := ∃ cb rv ev, RbX w F p cb rv ev cs rs tr
def RStep (w : World) (F : Nat → Prop) (p : Nat) (cs : List Nat) (rs : List Rg) (tr : List (Nat × Nat)) (w' : World) : Prop :=
  ∃ F', (∀ k, F' k → F k ∨ w.heap.size ≤ k) ∧ Rb w' F' p cs rs tr ∧ Kept F w w'
section
variable {w w' : World} {F G : Nat → Prop} {p cb : Nat} {rv ev : Value} {cs : List Nat} {rs : List Rg} {tr : List (Nat × Nat)}
theorem RbX.of_blocks (h : RbX w F p cb rv ev cs rs tr) (hs : w.heap.size ≤ w'.heap.size) (k : ∀ i, i < w.heap.size → F i → w'.heap[i]? = w.heap[i]?) : RbX w' F p cb rv ev cs rs tr where
  lt i hi := Nat.lt_of_lt_of_le (h.lt i hi) hs
  blk := (k p (h.lt _ h.fp) h.fp).trans h.blk
  fp := h.fp
  cells := h.cells.of_block (k cb (h.lt _ h.fc) h.fc)
  fc := h.fc
  regs := own_of_block h.regs fun g hg => k g (h.lt _ (h.frv g hg)) (h.frv g hg)
  frv := h.frv
  evs := own_of_block h.evs fun g hg => k g (h.lt _ (h.fev g hg)) (h.fev g hg)
  fev := h.fev
  long := h.long
  ncs := h.ncs
  nrs := h.nrs
  wrs := h.wrs
theorem RbX.below (h : RbX w F p cb rv ev cs rs tr) (hb : Below w.heap.size w w') : RbX w' F p cb rv ev cs rs tr := h.of_blocks hb.size fun i hi _ => hb.block i hi
theorem RbX.kept (h : RbX w F p cb rv ev cs rs tr) (hb : Kept G w w') (e : ∀ i, F i → ¬ G i) : RbX w' F p cb rv ev cs rs tr := h.of_blocks hb.size fun i hi hf => hb.block i hi (e i hf)
theorem RbX.of_heap (h : RbX w F p cb rv ev cs rs tr) (e : w'.heap = w.heap) : RbX w' F p cb rv ev cs rs tr := h.of_blocks (by rw [e]; exact Nat.le_refl _) fun i _ _ => by rw [e]
theorem Rb.below (h : Rb w F p cs rs tr) (hb : Below w.heap.size w w') : Rb w' F p cs rs tr := by
  obtain ⟨a, b, c, h⟩ := h; exact ⟨a, b, c, h.below hb⟩
theorem Rb.kept (h : Rb w F p cs rs tr) (hb : Kept G w w') (e : ∀ i, F i → ¬ G i) : Rb w' F p cs rs tr := by
  obtain ⟨a, b, c, h⟩ := h; exact ⟨a, b, c, h.kept hb e⟩
theorem RbX.c0 (h : RbX w F p cb rv ev cs rs tr) : w.cell? ⟨p, 0, none⟩ = some (.slice (some ⟨cb, 0, none⟩) cs.length cs.length) := (cell_blk h.blk 0).trans rfl
theorem RbX.c1 (h : RbX w F p cb rv ev cs rs tr) : w.cell? ⟨p, 1, none⟩ = some rv := (cell_blk h.blk 1).trans rfl
theorem RbX.c2 (h : RbX w F p cb rv ev cs rs tr) : w.cell? ⟨p, 2, none⟩ = some ev := (cell_blk h.blk 2).trans rfl
theorem RbX.frz (h : RbX w F p cb rv ev cs rs tr) (i : Nat) : w.frozen? ⟨p, i, none⟩ = false := frozen_blk h.blk i
theorem RbX.tp (h : RbX w F p cb rv ev cs rs tr) : ∃ c, w.heap[p]? = some (.cells c 88 (0, 0)) := ⟨_, h.blk⟩
theorem rnew_blocks (w : World) (n : Nat) (h1 : 1 ≤ n) (h2 : n ≤ 65536) :
    RbX ((w.alloc (.cells (madeCells #[.int .u64 0] n) 22)).alloc (.cells #[.slice (some ⟨w.heap.size, 0, none⟩) n n, .slice none 0 0, .slice none 0 0] 88))
      (fun k => k = w.heap.size ∨ k = w.heap.size + 1) (w.heap.size + 1) w.heap.size (.slice none 0 0) (.slice none 0 0) (List.replicate n 0) [] [] where
  lt k hk := by simp; omega
  blk := by
    rw [List.length_replicate]
    exact two_new1 w _ _
  fp := .inr rfl
  cells := by
    rw [List.length_replicate]
    exact ((World.rowIs_made w (.int .u64 0) n 22).alloc _).congr fun i _ => by rw [getD_rep]; rfl
  fc := .inl rfl
  regs := World.ownsRow_nil _ _ _ _
  frv k hk := by cases hk
  evs := World.ownsRow_nil _ _ _ _
  fev k hk := by cases hk
  long := by simp
  ncs := by rw [List.length_replicate]; exact ⟨h1, h2⟩
  nrs := by simp
  wrs r hr := by cases hr
theorem RbX.p_grown {w6 : World} {o : Obj} {v : Value} {e : TypeId} (h : RbX w F p cb rv ev cs rs tr) (ho : ∀ g, v.ownBlock = some g → ∃ c, w.heap[g]? = some (.cells c e (0, 0))) (he : e ≠ 88) (hg : (w.alloc o).grownBy w6 v.ownBlock) :
    w6.heap[p]? = some (.cells #[.slice (some ⟨cb, 0, none⟩) cs.length cs.length, rv, ev] 88 (0, 0)) :=
  ((hg.block p (by have := h.lt p h.fp; simp; omega) (fun e' => ne_type (ho p e'.symm) h.tp he rfl)).trans (fresh_lt (h.lt p h.fp) _)).trans h.blk
theorem RbX.addReg {w6 : World} {v' : Value} {o : Obj} (h : RbX w F p cb rv ev cs rs tr) (r : Rg) (hrs : rs.length < 64) (hr : r.base + r.size ≤ cs.length ∧ r.name.size ≤ 16 ∧ 1 ≤ r.size)
    (hown : w6.ownsRow 0 137 3 v' (rs.length + 1) (rs.flatMap rcells ++ rcells r))
    (hg : (w.alloc o).grownBy w6 rv.ownBlock) (hat : v'.ownBlock = rv.ownBlock ∨ v'.ownBlock = some (w.alloc o).heap.size) :
    RbX (w6.setCell ⟨p, 1, none⟩ v') (fun k => F k ∨ (w.heap.size ≤ k ∧ k < w6.heap.size)) p cb v' ev cs (rs ++ [r]) tr := by
  have hsz := hg.size
  simp only [World.size_alloc] at hsz
  have hp := h.p_grown (fun g hg' => own_type h.regs hg') (by decide) hg
  have old : ∀ k, k < w.heap.size → (∃ (c : Array Value) (t : TypeId), w.heap[k]? = some (Obj.cells c t (0, 0)) ∧ t ≠ 137 ∧ t ≠ 88) → ∀ i v', (w6.setCell ⟨p, i, none⟩ v').heap[k]? = w.heap[k]? := fun k hk hc i v' => by
    obtain ⟨c, t, h1, h2, h3⟩ := hc
    exact (Below.heap_setCell _ _ _ k (ne_type ⟨c, h1⟩ h.tp h3)).trans ((hg.block k (by simp; omega) (fun e => ne_type ⟨c, h1⟩ (own_type h.regs e.symm) h2 rfl)).trans (fresh_lt hk _))
  have hlt : ∀ i, (F i ∨ (w.heap.size ≤ i ∧ i < w6.heap.size)) → ∀ j v', i < (w6.setCell ⟨p, j, none⟩ v').heap.size := fun i hi j v' => by
    simp only [World.setCell, Array.size_modify]
    rcases hi with h1 | h1
    · have := h.lt i h1; omega
    · exact h1.2
  have hown2 : (w6.setCell ⟨p, 1, none⟩ v').ownsRow 0 137 3 v' (rs.length + 1) (rs.flatMap rcells ++ rcells r) :=
    own_of_block hown fun g hg' => Below.heap_setCell _ _ _ g (ne_type (own_type hown hg') ⟨_, hp⟩ (by decide))
  exact {
    lt := fun i hi => hlt i hi _ _
    blk := heap_setCell_same _ p 1 _ _ v' hp
    fp := .inl h.fp
    cells := h.cells.of_block (old cb (h.lt _ h.fc) (by obtain ⟨c, hc⟩ := row_type h.cells; exact ⟨c, _, hc, by decide, by decide⟩) _ _)
    fc := .inl h.fc
    regs := by rw [List.length_append, List.length_singleton, List.flatMap_append]; simpa using hown2
    frv := fun k hk => by
      rcases hat with h1 | h1
      · exact .inl (h.frv k (h1 ▸ hk))
      · right
        have hk2 := (World.ownsRow.lt hown k hk).2
        rw [h1] at hk
        cases hk
        simp at hk2 ⊢
        omega
    evs := own_of_block h.evs fun g hg' => old g (h.lt _ (h.fev g hg')) (by obtain ⟨c, hc⟩ := own_type h.evs hg'; exact ⟨c, _, hc, by decide, by decide⟩) _ _
    fev := fun k hk => .inl (h.fev k hk)
    long := h.long
    ncs := h.ncs
    nrs := by rw [List.length_append, List.length_singleton]; omega
    wrs := fun x hx => by
      rcases List.mem_append.1 hx with h1 | h1
      · exact h.wrs x h1
      · cases List.mem_singleton.1 h1; exact hr }
theorem RbX.addEv {w6 : World} {v' : Value} {o : Obj} (h : RbX w F p cb rv ev cs rs tr) (e : Nat × Nat) (hl : tr.length < 8388608)
    (hown : w6.ownsRow 0 77 2 v' (tr.length + 1) (tr.flatMap ecl ++ ecl e))
    (hg : (w.alloc o).grownBy w6 ev.ownBlock) (hat : v'.ownBlock = ev.ownBlock ∨ v'.ownBlock = some (w.alloc o).heap.size) :
    RbX (w6.setCell ⟨p, 2, none⟩ v') (fun k => F k ∨ (w.heap.size ≤ k ∧ k < w6.heap.size)) p cb rv v' cs rs (tr ++ [e]) := by
  have hsz := hg.size
  simp only [World.size_alloc] at hsz
  have hp := h.p_grown (fun g hg' => own_type h.evs hg') (by decide) hg
  have old : ∀ k, k < w.heap.size → (∃ (c : Array Value) (t : TypeId), w.heap[k]? = some (Obj.cells c t (0, 0)) ∧ t ≠ 77 ∧ t ≠ 88) → ∀ i v', (w6.setCell ⟨p, i, none⟩ v').heap[k]? = w.heap[k]? := fun k hk hc i v' => by
    obtain ⟨c, t, h1, h2, h3⟩ := hc
    exact (Below.heap_setCell _ _ _ k (ne_type ⟨c, h1⟩ h.tp h3)).trans ((hg.block k (by simp; omega) (fun e => ne_type ⟨c, h1⟩ (own_type h.evs e.symm) h2 rfl)).trans (fresh_lt hk _))
  have hlt : ∀ i, (F i ∨ (w.heap.size ≤ i ∧ i < w6.heap.size)) → ∀ j v', i < (w6.setCell ⟨p, j, none⟩ v').heap.size := fun i hi j v' => by
    simp only [World.setCell, Array.size_modify]
    rcases hi with h1 | h1
    · have := h.lt i h1; omega
    · exact h1.2
  have hown2 : (w6.setCell ⟨p, 2, none⟩ v').ownsRow 0 77 2 v' (tr.length + 1) (tr.flatMap ecl ++ ecl e) :=
    own_of_block hown fun g hg' => Below.heap_setCell _ _ _ g (ne_type (own_type hown hg') ⟨_, hp⟩ (by decide))
  exact {
    lt := fun i hi => hlt i hi _ _
    blk := heap_setCell_same _ p 2 _ _ v' hp
    fp := .inl h.fp
    cells := h.cells.of_block (old cb (h.lt _ h.fc) (by obtain ⟨c, hc⟩ := row_type h.cells; exact ⟨c, _, hc, by decide, by decide⟩) _ _)
    fc := .inl h.fc
    regs := own_of_block h.regs fun g hg' => old g (h.lt _ (h.frv g hg')) (by obtain ⟨c, hc⟩ := own_type h.regs hg'; exact ⟨c, _, hc, by decide, by decide⟩) _ _
    frv := fun k hk => .inl (h.frv k hk)
    evs := by rw [List.length_append, List.length_singleton, List.flatMap_append]; simpa using hown2
    fev := fun k hk => by
      rcases hat with h1 | h1
      · exact .inl (h.fev k (h1 ▸ hk))
      · right
        have hk2 := (World.ownsRow.lt hown k hk).2
        rw [h1] at hk
        cases hk
        simp at hk2 ⊢
        omega
    long := by rw [List.length_append, List.length_singleton]; omega
    ncs := h.ncs
    nrs := h.nrs
    wrs := h.wrs }
theorem RbX.store (h : RbX w F p cb rv ev cs rs tr) (a v : Nat) : RbX (w.setCell ⟨cb, a, none⟩ (.int .u64 (v : Int))) F p cb rv ev (cs.set a v) rs tr := by
  have ne : ∀ g, (∃ (c : Array Value) (t : TypeId), w.heap[g]? = some (Obj.cells c t (0, 0)) ∧ t ≠ 22) → (w.setCell ⟨cb, a, none⟩ (.int .u64 (v : Int))).heap[g]? = w.heap[g]? := fun g hg => by
    obtain ⟨c, t, h1, h2⟩ := hg
    exact Below.heap_setCell _ _ _ _ (ne_type ⟨c, h1⟩ (row_type h.cells) h2)
  exact {
    lt := fun i hi => by have := h.lt i hi; simpa [World.setCell] using this
    blk := by rw [List.length_set]; exact (ne p ⟨_, _, h.blk, by decide⟩).trans h.blk
    fp := h.fp
    cells := by
      rw [List.length_set]
      refine (h.cells.set a _).congr fun i hi => ?_
      by_cases e : i = a
      · subst e
        rw [if_pos rfl, List.getD_eq_getElem?_getD, List.getElem?_set_self (by simpa using hi)]; rfl
      · rw [if_neg e, List.getD_eq_getElem?_getD, List.getD_eq_getElem?_getD, List.getElem?_set_ne (Ne.symm e)]
    fc := h.fc
    regs := own_of_block h.regs fun g hg => ne g (by obtain ⟨c, hc⟩ := own_type h.regs hg; exact ⟨c, _, hc, by decide⟩)
    frv := h.frv
    evs := own_of_block h.evs fun g hg => ne g (by obtain ⟨c, hc⟩ := own_type h.evs hg; exact ⟨c, _, hc, by decide⟩)
    fev := h.fev
    long := h.long
    ncs := by rw [List.length_set]; exact h.ncs
    nrs := h.nrs
    wrs := by rw [List.length_set]; exact h.wrs }
theorem RbX.forget (h : RbX w F p cb rv ev cs rs tr) : RbX (w.setCell ⟨p, 2, none⟩ (.slice none 0 0)) F p cb rv (.slice none 0 0) cs rs [] := by
  have ne : ∀ g, (∃ (c : Array Value) (t : TypeId), w.heap[g]? = some (Obj.cells c t (0, 0)) ∧ t ≠ 88) → (w.setCell ⟨p, 2, none⟩ (.slice none 0 0)).heap[g]? = w.heap[g]? := fun g hg => by
    obtain ⟨c, t, h1, h2⟩ := hg
    exact Below.heap_setCell _ _ _ _ (ne_type ⟨c, h1⟩ h.tp h2)
  exact {
    lt := fun i hi => by have := h.lt i hi; simpa [World.setCell] using this
    blk := heap_setCell_same _ p 2 _ _ (.slice none 0 0) h.blk
    fp := h.fp
    cells := h.cells.of_block (ne cb (by obtain ⟨c, hc⟩ := row_type h.cells; exact ⟨c, _, hc, by decide⟩))
    fc := h.fc
    regs := own_of_block h.regs fun g hg => ne g (by obtain ⟨c, hc⟩ := own_type h.regs hg; exact ⟨c, _, hc, by decide⟩)
    frv := h.frv
    evs := World.ownsRow_nil _ _ _ _
    fev := fun k hk => by cases hk
    long := by simp
    ncs := h.ncs
    nrs := h.nrs
    wrs := h.wrs }
end
end Go.Proofs.Ytalnhbjpfnodiaa
