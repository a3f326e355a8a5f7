/- The program's comparison of rows. -/
import Derived.Test.YtalnhbjpfnodiaaYd
import Derived.Test.YtalnhbjpfnodiaaYs
namespace Go.Proofs.Ytalnhbjpfnodiaa
open Go.RowKit Go.Shelf
attribute [local go_sem] Oper.semAt_some
/-- The error of EqualRows and LessRows. -/
def cmE (n t : Nat) (x y k : Int) : Int := if ckQ (fun v => hasE n v k) x y k = 0 then roomE t (2 * k) else ckQ (fun v => hasE n v k) x y k
/-- How the rows are to one another. -/
def cmO (cs : List Nat) (x y k : Int) : Nat := ordS (fun i => cs.getD (x.toNat + i) 0) (fun i => cs.getD (y.toNat + i) 0) k.toNat
def CmP (w : World) (F : Nat → Prop) (p : Nat) (cs : List Nat) (rs : List Rg) (tr : List (Nat × Nat)) (a b : Nat) (E : Int) (t' : List (Nat × Nat)) (e : Ending) (w' : World) : Prop :=
  e = .returned (.tuple #[.int .u64 ((if E = 0 then a else 0 : Nat) : Int), .int .u64 ((if E = 0 then b else 0 : Nat) : Int), .int .i64 E]) ∧ Step w F p cs rs (if E = 0 then tr ++ t' else tr) w'
theorem cmE_zero {n t : Nat} {x y k : Int} (h : cmE n t x y k = 0) : ∃ j : Nat, k = j ∧ 1 ≤ j ∧ j ≤ 64 ∧ ∃ a : Nat, x = a ∧ a + j ≤ n ∧ ∃ b : Nat, y = b ∧ b + j ≤ n ∧ t + 2 * j ≤ 8388608 := by
  unfold cmE at h
  split at h
  · rename_i h1
    obtain ⟨j, rfl, h2, h3, a, rfl, h4, b, rfl, h5⟩ := ckQ_zero h1
    have h7 := roomE_zero h
    exact ⟨j, rfl, h2, h3, a, rfl, h4, b, rfl, h5, by omega⟩
  · rename_i h1; exact absurd h h1
theorem results_cct {fn : Func} {p q r : Tmp} (h : fn.results = #[.cell p 22, .cell q 22, .tmp r]) (tmps : Array Value) (w : World) {b1 b2 : Nat} {v1 v2 : Value} (hp : tmps[p]?.getD undef = .pointer (some ⟨b1, 0, none⟩)) (hq : tmps[q]?.getD undef = .pointer (some ⟨b2, 0, none⟩))
    (h1 : w.cell? ⟨b1, 0, none⟩ = some v1) (h2 : w.cell? ⟨b2, 0, none⟩ = some v2) : (results fn tmps).run Try.prog w = .ok (.tuple #[v1, v2, tmps.getD r undef]) w := by
  simp only [results, h]
  have u1 := Try.underlying22
  simp [Sem.run_bind, Result.andThen, loadVar, hp, hq, go_sem, h1, h2, isAgg]
theorem loaded_any (p : Nat) (x y k : Int) (w : World) : Calls Try.prog 74 #[.pointer (some ⟨p, 0, none⟩), .int .i64 x, .int .i64 y, .int .i64 k] w fun e w' => e = .returned (.func (.func 85) #[] #[.pointer (some ⟨w.heap.size + 1 + 1 + 1, 0, none⟩), .pointer (some ⟨w.heap.size, 0, none⟩), .pointer (some ⟨w.heap.size + 1, 0, none⟩), .pointer (some ⟨w.heap.size + 1 + 1, 0, none⟩)]) ∧
    w' = (((w.alloc (.cells #[.pointer (some ⟨p, 0, none⟩)] 30)).alloc (.cells #[.int .i64 x] 3)).alloc (.cells #[.int .i64 y] 3)).alloc (.cells #[.int .i64 k] 3) := by
  go_enter Try.func74, Try.ntmps74
  go_wp2
  go_ret
  exact ⟨rfl, rfl⟩
/-- The blocks of the call. -/
abbrev cmX (s : Nat) : Nat → Prop := fun k => s ≤ k ∧ k < s + 8
/-- What lies in them. -/
structure CmB (s p a b n o : Nat) (ob : Obj) (W : World) : Prop where
  same : Boxed W s 22 (.int .u64 (eqO o : Int))
  less : Boxed W (s + 1) 22 (.int .u64 (ltO o : Int))
  pb : Boxed W (s + 2) 30 (.pointer (some ⟨p, 0, none⟩))
  xb : Boxed W (s + 3) 3 (.int .i64 (a : Int))
  yb : Boxed W (s + 4) 3 (.int .i64 (b : Int))
  nb : Boxed W (s + 5) 3 (.int .i64 (n : Int))
  two : RY.Two (s + 6) ob W
section
variable {s p a b n o o' : Nat} {ob : Obj} {W W' : World}
theorem CmB.to (h : CmB s p a b n o ob W) (e : ∀ k, cmX s k → W'.heap[k]? = W.heap[k]?) : CmB s p a b n o ob W' :=
  ⟨(e _ (by omega)).trans h.same, (e _ (by omega)).trans h.less, (e _ (by omega)).trans h.pb, (e _ (by omega)).trans h.xb, (e _ (by omega)).trans h.yb, (e _ (by omega)).trans h.nb, h.two.to (e _ (by omega)) (e _ (by omega))⟩
theorem CmB.cells (h : CmB s p a b n o ob W) : W.cell? ⟨s + 2, 0, none⟩ = some (.pointer (some ⟨p, 0, none⟩)) ∧ W.cell? ⟨s + 3, 0, none⟩ = some (.int .i64 (a : Int)) ∧ W.cell? ⟨s + 4, 0, none⟩ = some (.int .i64 (b : Int)) ∧ W.cell? ⟨s + 5, 0, none⟩ = some (.int .i64 (n : Int)) :=
  ⟨h.pb.cell, h.xb.cell, h.yb.cell, h.nb.cell⟩
theorem CmB.loop (h : CmB s p a b n o ob W) (ob' : Obj) : CmB s p a b n o ob' (W.putObj (s + 7) ob') :=
  ⟨(World.putObj_heap_other (by omega)).trans h.same, (World.putObj_heap_other (by omega)).trans h.less, (World.putObj_heap_other (by omega)).trans h.pb, (World.putObj_heap_other (by omega)).trans h.xb, (World.putObj_heap_other (by omega)).trans h.yb, (World.putObj_heap_other (by omega)).trans h.nb, h.two.put⟩
theorem CmB.drew (h : CmB s p a b n o ob W) : CmB s p a b n o ob W.drew := h.to fun _ _ => rfl
theorem CmB.sets (h : CmB s p a b n o ob W) (v1 v2 : Value) (h1 : v1 = .int .u64 (ltO o' : Int)) (h2 : v2 = .int .u64 (eqO o' : Int)) : CmB s p a b n o' ob (((W.setCell ⟨s + 1, 0, none⟩ v1).drew).setCell ⟨s, 0, none⟩ v2) := by
  subst h1; subst h2
  have k : ∀ i, i ≠ s → i ≠ s + 1 → (((W.setCell ⟨s + 1, 0, none⟩ (.int .u64 (ltO o' : Int))).drew).setCell ⟨s, 0, none⟩ (.int .u64 (eqO o' : Int))).heap[i]? = W.heap[i]? := fun i h1 h2 => (Below.heap_setCell _ _ _ _ h1).trans (Below.heap_setCell _ _ _ _ h2)
  have f1 : Boxed (W.setCell ⟨s + 1, 0, none⟩ (.int .u64 (ltO o' : Int))) s 22 (.int .u64 (eqO o : Int)) := h.same.other (by omega) _
  have f2 : Boxed (W.setCell ⟨s + 1, 0, none⟩ (.int .u64 (ltO o' : Int))).drew s 22 (.int .u64 (eqO o : Int)) := f1
  have g1 : Boxed (W.setCell ⟨s + 1, 0, none⟩ (.int .u64 (ltO o' : Int))) (s + 1) 22 (.int .u64 (ltO o' : Int)) := h.less.set _
  have g2 : Boxed (W.setCell ⟨s + 1, 0, none⟩ (.int .u64 (ltO o' : Int))).drew (s + 1) 22 (.int .u64 (ltO o' : Int)) := g1
  exact ⟨f2.set _, g2.other (by omega) _, (k _ (by omega) (by omega)).trans h.pb, (k _ (by omega) (by omega)).trans h.xb, (k _ (by omega) (by omega)).trans h.yb, (k _ (by omega) (by omega)).trans h.nb, h.two.to (k _ (by omega) (by omega)) (k _ (by omega) (by omega))⟩
end
theorem cm4 (W W4 : World) (p : Nat) (x y k : Int) (h : W4 = (((W.alloc (.cells #[.pointer (some ⟨p, 0, none⟩)] 30)).alloc (.cells #[.int .i64 x] 3)).alloc (.cells #[.int .i64 y] 3)).alloc (.cells #[.int .i64 k] 3)) :
    W4.heap.size = W.heap.size + 4 ∧ Below W.heap.size W W4 ∧ Boxed W4 W.heap.size 30 (.pointer (some ⟨p, 0, none⟩)) ∧ Boxed W4 (W.heap.size + 1) 3 (.int .i64 x) ∧ Boxed W4 (W.heap.size + 1 + 1) 3 (.int .i64 y) ∧ Boxed W4 (W.heap.size + 1 + 1 + 1) 3 (.int .i64 k) := by
  subst h
  have b1 := Boxed.new W 30 (.pointer (some ⟨p, 0, none⟩))
  have b2 := Boxed.new (W.alloc (.cells #[.pointer (some ⟨p, 0, none⟩)] 30)) 3 (.int .i64 x)
  have b3 := Boxed.new ((W.alloc (.cells #[.pointer (some ⟨p, 0, none⟩)] 30)).alloc (.cells #[.int .i64 x] 3)) 3 (.int .i64 y)
  have b4 := Boxed.new (((W.alloc (.cells #[.pointer (some ⟨p, 0, none⟩)] 30)).alloc (.cells #[.int .i64 x] 3)).alloc (.cells #[.int .i64 y] 3)) 3 (.int .i64 k)
  simp only [World.size_alloc] at b2 b3 b4
  exact ⟨by simp, (((((Below.refl _ W).alloc (Nat.le_refl _) _).alloc (by simp) _).alloc (by simp; omega) _).alloc (by simp; omega) _), ((b1.alloc _).alloc _).alloc _, (b2.alloc _).alloc _, b3.alloc _, b4⟩
theorem kept_put (W : World) (l : Nat) (o : Obj) : Kept (fun i => i = l) W (W.putObj l o) := ⟨rfl, rfl, rfl, by simp, fun _ _ h => World.putObj_heap_other h⟩
theorem yield_mono {F : Fence} {m l : Nat} {args : Array Value} {W : World} {R R' : Ending → World → Prop} (h : YieldAt F m Try.prog l args W R) (hr : ∀ e w, R e w → R' e w) : YieldAt F m Try.prog l args W R' := by
  obtain ⟨fn, tmps, assign, body, hy, hR⟩ := h
  exact ⟨fn, tmps, assign, body, hy, hR.mono hr⟩
section
variable {w w' : World} {F : Nat → Prop} {p : Nat} {cs c' : List Nat} {rs : List Rg} {tr t' : List (Nat × Nat)}
theorem Bs.loop {X : Nat → Prop} {W : World} (h : Bs w F X p cs rs tr W) (l : Nat) (hl : X l ∧ w.heap.size ≤ l) (o : Obj) : Bs w F X p cs rs tr (W.putObj l o) := h.put (kept_put W l o) fun _ e => e ▸ hl
theorem Bs.sets {X : Nat → Prop} {W : World} (h : Bs w F X p cs rs tr W) {a b : Nat} (ha : X a ∧ w.heap.size ≤ a) (hb : X b ∧ w.heap.size ≤ b) (v1 v2 : Value) : Bs w F X p cs rs tr (((W.setCell ⟨b, 0, none⟩ v1).drew).setCell ⟨a, 0, none⟩ v2) :=
  h.put (Y := fun i => i = a ∨ i = b) (((Kept.refl _ W).setCell (p := ⟨b, 0, none⟩) (.inl (.inr rfl)) v1).drew.setCell (p := ⟨a, 0, none⟩) (.inl (.inl rfl)) v2) fun _ e => by
    rcases e with rfl | rfl
    · exact ha
    · exact hb
end
end Go.Proofs.Ytalnhbjpfnodiaa
