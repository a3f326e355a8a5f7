/- Layer 1: Split: what a round keeps. -/
import Derived.Test.YtoapfldmkpobmaaGreatDoorS
namespace Go.Proofs.YtoapfldmkpobmaaGreatDoor
open Go.RowKit Go.Shelf
attribute [local go_sem] Oper.semAt_some
def encF (x : Item) : List Value := [.string ⟨x.s.toArray⟩, .bool x.q]
def longs (pre : List Item) : Bool := pre.any (fun x => decide (2000 < x.s.length))
theorem one_of {W : World} {b : Nat} {v : Value} {t : TypeId} (h : W.heap[b]? = some (.cells #[v] t)) : W.cell? ⟨b, 0, none⟩ = some v ∧ W.frozen? ⟨b, 0, none⟩ = false := by
  constructor <;> simp [World.cell?, World.frozen?, h]
theorem two_of {W : World} {b : Nat} {u v : Value} {t : TypeId} (h : W.heap[b]? = some (.cells #[u, v] t)) : W.cell? ⟨b, 0, none⟩ = some u ∧ W.cell? ⟨b, 1, none⟩ = some v := by
  constructor <;> simp [World.cell?, h]
theorem cells_set {W : World} {b i : Nat} {v : Value} {cs : Array Value} {t : TypeId} {fr : Nat × Nat} (h : W.heap[b]? = some (.cells cs t fr)) : (W.setCell ⟨b, i, none⟩ v).heap[b]? = some (.cells (cs.setIfInBounds i v) t fr) := by simp [World.setCell, Array.getElem?_modify, h]
theorem in_heap {W : World} {b : Nat} {o : Obj} (h : W.heap[b]? = some o) : b < W.heap.size := (Array.getElem?_eq_some_iff.1 h).1
structure SpI (w : World) (pre : List Item) (W : World) : Prop where
  bel : Below w.heap.size w W
  r2 : W.heap[w.heap.size]? = some (.cells #[.slice none 0 0] 31)
  r3 : W.heap[w.heap.size + 1]? = some (.cells #[.int .i64 0] 24)
  g : W.heap[w.heap.size + 3]? = some (.cells #[.bool (longs pre)] 4)
  ok : ∀ x ∈ pre, x.ok = true
  row : ∃ v, W.heap[w.heap.size + 2]? = some (.cells #[v] 31) ∧ W.ownsRow (w.heap.size + 5) 39 2 v pre.length (pre.flatMap encF) ∧ (v = .slice none 0 0 ↔ pre = []) ∧ v.ownBlock ≠ some (w.heap.size + 6)
def spOwn (w W : World) (k : Nat) : Prop := k ≠ w.heap.size + 6 ∧ ∃ v, W.heap[w.heap.size + 2]? = some (.cells #[v] 31) ∧ v.ownBlock = some k
def SpX (w : World) (c : Code) (xs : List Item) (W : World) : Prop :=
  c = .ret ∧ Below w.heap.size w W ∧ W.heap[w.heap.size]? = some (.cells #[.slice none 0 0] 31) ∧ W.heap[w.heap.size + 1]? = some (.cells #[.int .i64 6] 24) ∧ ∃ x ∈ xs, x.ok = false
theorem spOwn_b (w : World) : RX.OwnB (w.heap.size + 5) (spOwn w) := fun X Y k h ⟨a, v, hv, hb⟩ => ⟨a, v, (h _ (by omega)).trans hv, hb⟩
theorem SpI.ab (w : World) : RX.AbX (w.heap.size + 5) (spOwn w) (SpI w) := by
  intro pre W W' row h hg hr
  have low : ∀ k o, k < w.heap.size + 5 → W.heap[k]? = some o → W'.heap[k]? = some o := fun k o hk ho => (hg.block k (in_heap ho) (fun e => by have := (hr k e.symm).1; omega)).trans ho
  obtain ⟨v, hv, ho, hn, hne⟩ := h.row
  refine ⟨h.bel.grown hg h.bel.size (fun k e => by have := (hr k e).1; omega), low _ _ (by omega) h.r2, low _ _ (by omega) h.r3, low _ _ (by omega) h.g, h.ok, v, low _ _ (by omega) hv, ho.kept hg ?_, hn, hne⟩
  rcases hb : v.ownBlock with _ | k
  · exact .inl rfl
  · right
    intro e
    exact (hr k e.symm).2 ⟨fun e' => hne (by rw [hb, e']), v, hv, hb⟩
theorem SpX.ab (w : World) (c : Code) : RX.AbX (w.heap.size + 5) (spOwn w) (SpX w c) := by
  intro pre W W' row h hg hr
  have low : ∀ k o, k < w.heap.size + 5 → W.heap[k]? = some o → W'.heap[k]? = some o := fun k o hk ho => (hg.block k (in_heap ho) (fun e => by have := (hr k e.symm).1; omega)).trans ho
  obtain ⟨a, b, c, d, e⟩ := h
  exact ⟨a, b.grown hg b.size (fun k e => by have := (hr k e).1; omega), low _ _ (by omega) c, low _ _ (by omega) d, e⟩
theorem sp_after {w W : World} {s : ByteArray} {l n : Nat} {pre : List Item} {x : Item} {t1 : Value} {g : Nat → Value} (hl : l = w.heap.size + 6) (hlp : ∃ r, W.heap[l]? = some (.loop r)) (h : SpI w pre W) (hlen : pre.length ≤ 100000) {W1 : World}
    (hW1 : W1 = W.alloc (.cells #[.string ⟨x.s.toArray⟩, .bool x.q] 39)) :
    KeepsFrom (w.heap.size + 5) W W1 ∧ ∀ r', spBody.wpIn (Fence.wide.inRound l) n Tryz.prog (RX.postX w.heap.size (w.heap.size + 5) (spOwn w) (SpI w) (SpX w) (pre ++ [x]) W (W1.putObj l (.loop r'))) (spAct s t1 w.heap.size (w.heap.size + 1) (w.heap.size + 2) (w.heap.size + 3) W.heap.size x.ok g) (W1.putObj l (.loop r')) := by
  obtain ⟨r0, hr0⟩ := hlp
  have hls := in_heap hr0
  have k1 : ∀ k, k < W.heap.size → W1.heap[k]? = W.heap[k]? := fun k hk => by
    rw [hW1, Below.heap_alloc _ _ _ hk]
  have hs1 : W1.heap.size = W.heap.size + 1 := by rw [hW1, World.size_alloc]
  have hX1 : W1.heap[W.heap.size]? = some (.cells #[.string ⟨x.s.toArray⟩, .bool x.q] 39) := by
    rw [hW1]; exact World.alloc_heap_new W _
  have hb1 : Below W.heap.size W W1 := by
    rw [hW1]; exact (Below.refl _ W).alloc (Nat.le_refl _) _
  clear hW1
  refine ⟨⟨by omega, fun k o hB hk ho => (k1 k (in_heap hk)).trans hk⟩, fun r' => ?_⟩
  obtain ⟨W2, hW2⟩ : ∃ W2, W2 = W1.putObj l (.loop r') := ⟨_, rfl⟩
  rw [← hW2]
  have hs2 : W2.heap.size = W.heap.size + 1 := by rw [hW2]; simp [hs1]
  have k2 : ∀ k, k < W.heap.size → k ≠ l → W2.heap[k]? = W.heap[k]? := fun k hk hkl => by rw [hW2, World.putObj_heap_other hkl, k1 k hk]
  have hX2 : W2.heap[W.heap.size]? = some (.cells #[.string ⟨x.s.toArray⟩, .bool x.q] 39) := by rw [hW2, World.putObj_heap_other (by omega), hX1]
  have hl2 : W2.heap[l]? = some (.loop r') := by rw [hW2]; exact World.putObj_heap_same (by omega)
  have hb2 : Below w.heap.size w W2 := by
    rw [hW2]
    exact (h.bel.trans (hb1.mono h.bel.size)).grown (grownBy_putObj' W1 l (.loop r')) (by have := h.bel.size; omega) (fun k e => by cases e; omega)
  clear hW2 hX1 k1 hb1 hs1
  obtain ⟨v, hv, ho, hn, hne⟩ := h.row
  have a0 := in_heap h.g
  have hr2 := (k2 _ (by omega) (by omega)).trans h.r2
  have hr3 := (k2 _ (by omega) (by omega)).trans h.r3
  have hg := (k2 _ (by omega) (by omega)).trans h.g
  have hv2 := (k2 _ (by omega) (by omega)).trans hv
  rcases hok : x.ok with _ | _
  · refine sp_bad (v2 := .slice none 0 0) (v3 := .int .i64 0) (by omega) (one_of hr2).1 (one_of hr2).2 (one_of hr3).1 (one_of hr3).2 fun a => ?_
    refine ⟨?_, rfl, ?_, ?_, ?_, x, by simp, hok⟩
    · exact ((KeepsOthers.setCell _ _ _).trans (KeepsOthers.setCell _ _ _)).from _
    · exact (hb2.setCell (p := ⟨w.heap.size, 0, none⟩) (Nat.le_refl _) _).setCell (p := ⟨w.heap.size + 1, 0, none⟩) (by simp) _
    · rw [Below.heap_setCell _ _ _ _ (by simp)]; exact one_setCell hr2
    · exact one_setCell (by rw [Below.heap_setCell _ _ _ _ (by simp)]; exact hr3)
  · have hvB : ∀ k, v.ownBlock = some k → w.heap.size + 5 ≤ k ∧ k < W.heap.size ∧ k ≠ l := by
      intro k hk
      rcases ho.2 with ⟨rfl, _⟩ | ⟨g, cap, cur, rfl, hb, hgg, rest⟩
      · cases hk
      · cases hk; exact ⟨hb, in_heap hgg, fun e => hne (by rw [← hl, ← e]; rfl)⟩
    have ho2 : W2.ownsRow (w.heap.size + 5) 39 2 v pre.length (pre.flatMap encF) := by
      refine ⟨ho.1, ?_⟩
      rcases ho.2 with hn | ⟨g, cap, cur, rfl, hb, hgg, rest⟩
      · exact .inl hn
      · exact .inr ⟨g, cap, cur, rfl, hb, (k2 _ (in_heap hgg) (hvB _ rfl).2.2).trans hgg, rest⟩
    have o : ∀ (b : Bool) k, k ≠ w.heap.size + 3 → (W2.setCell ⟨w.heap.size + 3, 0, none⟩ (.bool b)).heap[k]? = W2.heap[k]? := fun b k hk => Below.heap_setCell _ _ _ _ hk
    have hGL : ∀ b, (W2.setCell ⟨w.heap.size + 3, 0, none⟩ (.bool b)).heap[w.heap.size + 2]? = some (.cells #[v] 31) := fun b => (o b _ (by omega)).trans hv2
    have hGX : ∀ b, (W2.setCell ⟨w.heap.size + 3, 0, none⟩ (.bool b)).heap[W.heap.size]? = _ := fun b => (o b _ (by omega)).trans hX2
    have lowL : ∀ b w', ((W2.setCell ⟨w.heap.size + 3, 0, none⟩ (.bool b)).alloc (.cells #[.string ⟨x.s.toArray⟩, .bool x.q] 39)).grownBy w' v.ownBlock → ∀ k o, k < W.heap.size + 1 → (v.ownBlock ≠ some k) → (W2.setCell ⟨w.heap.size + 3, 0, none⟩ (.bool b)).heap[k]? = some o → w'.heap[k]? = some o := by
      intro b w' hgr k o hk hkn hko
      rw [hgr.block k (by rw [World.size_alloc, World.size_setCell]; omega) (fun e => hkn e.symm), Below.heap_alloc _ _ _ (by rw [World.size_setCell]; omega), hko]
    refine sp_ok (B := w.heap.size + 5) (lg := longs pre) (q := x.q) (T := ⟨x.s.toArray⟩) (v := v) (k := pre.length) (xs := pre.flatMap encF) (one_of hg).1 (one_of hg).2 (two_of hX2).1 (fun b => (one_of (hGL b)).1) (fun b => (two_of (hGX b)).1) (fun b => (two_of (hGX b)).2) (fun b => ownsRow_setCell_below ho2 (by simp) _) hlen (by omega) ?_ ?_
    · intro b w' hgr
      have := lowL b w' hgr _ _ (by omega) (fun e => by have := (hvB _ e).1; omega) (hGL b)
      exact ⟨⟨_, (one_of this).1⟩, (one_of this).2⟩
    · intro a v' w' hown' hgr hat hnil
      have hL := lowL _ w' hgr _ _ (by omega) (fun e => by have := (hvB _ e).1; omega) (hGL _)
      have hsz := hgr.size
      rw [World.size_alloc, World.size_setCell] at hsz
      have keep : ∀ k o, k < W.heap.size + 1 → k ≠ w.heap.size + 3 → k ≠ w.heap.size + 2 → v.ownBlock ≠ some k → W2.heap[k]? = some o → (w'.setCell ⟨w.heap.size + 2, 0, none⟩ v').heap[k]? = some o := by
        intro k ob hk h3 h2 hv hko
        rw [Below.heap_setCell _ _ _ _ (by simpa using h2)]
        exact lowL _ w' hgr k ob hk hv (by rw [o _ k h3, hko])
      have nv : ∀ k, k < w.heap.size + 5 → v.ownBlock ≠ some k := fun k hk e => by have := (hvB _ e).1; omega
      have hv'n : v'.ownBlock ≠ some (w.heap.size + 6) := by
        rcases hat with e | e
        · rw [e]; exact hne
        · rw [e]; intro e'; simp at e'; omega
      have hlong : longs (pre ++ [x]) = (longs pre || decide (2000 < (⟨x.s.toArray⟩ : ByteArray).size)) := by rw [size_mk]; unfold longs; simp
      refine ⟨?_, ⟨?_, ?_, ?_⟩, ?_, ?_, ?_, ?_, ?_, v', one_setCell hL, ?_, ?_, hv'n⟩
      · refine ⟨by rw [World.size_setCell]; omega, fun k ob hB hk hc => ?_⟩
        exact keep k ob (by have := in_heap hk; omega) (by omega) (by omega) (fun e => by
          have ⟨_, h2, h3⟩ := hvB _ e
          rcases ho.2 with ⟨rfl, _⟩ | ⟨g, cap, cur, rfl, hb, hgg, rest⟩
          · cases e
          · cases e; rw [k2 _ h2 h3, hgg] at hk; cases hk; cases hc) hk
      · rw [World.size_setCell]; omega
      · intro k hk
        have hks : k < W.heap.size := by omega
        obtain ⟨ob, hob⟩ : ∃ ob, W.heap[k]? = some ob := ⟨_, Array.getElem?_eq_getElem hks⟩
        rw [hob]; exact keep k ob (by omega) (by omega) (by omega) (nv k (by omega)) (by rw [k2 k hks (by omega), hob])
      · intro k cs t fr hB hk hno
        have hks := in_heap hk
        have hkl : k ≠ l := by rintro rfl; rw [hr0] at hk; cases hk
        have hvk : v.ownBlock ≠ some k := fun e => hno ⟨by omega, v, hv, e⟩
        refine ⟨keep k _ (by omega) (by omega) (by omega) hvk (by rw [k2 k hks hkl, hk]), ?_⟩
        rintro ⟨_, u, hu, hub⟩
        rw [one_setCell hL] at hu
        cases hu
        rcases hat with e | e
        · exact hvk (e ▸ hub)
        · rw [e] at hub; cases hub; omega
      · refine ((hb2.setCell (p := ⟨w.heap.size + 3, 0, none⟩) (by simp) _).alloc (by rw [World.size_setCell]; omega) _).grown hgr (by rw [World.size_alloc, World.size_setCell]; omega) (fun k e => by have := (hvB k e).1; omega) |>.setCell (p := ⟨w.heap.size + 2, 0, none⟩) (by simp) _
      · exact keep _ _ (by omega) (by omega) (by omega) (nv _ (by omega)) hr2
      · exact keep _ _ (by omega) (by omega) (by omega) (nv _ (by omega)) hr3
      · rw [Below.heap_setCell _ _ _ _ (by simp), hlong]
        exact lowL _ w' hgr _ _ (by omega) (nv _ (by omega)) (one_setCell hg)
      · intro y hy
        rcases List.mem_append.1 hy with hy | hy
        · exact h.ok y hy
        · simp at hy; rw [hy]; exact hok
      · have := ownsRow_setCell_other (a := ⟨w.heap.size + 2, 0, none⟩) hown' (by
          intro e
          rcases hat with e' | e'
          · rw [e'] at e; exact nv _ (by simp) e
          · rw [e'] at e; simp at e; omega) v'
        rw [List.length_append, List.flatMap_append]
        simpa [encF] using this
      · exact ⟨fun e => absurd e hnil, fun e => by simp at e⟩
end Go.Proofs.YtoapfldmkpobmaaGreatDoor
