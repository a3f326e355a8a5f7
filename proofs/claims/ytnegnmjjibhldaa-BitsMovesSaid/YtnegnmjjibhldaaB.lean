/- Layer 2: rows that a call made; Clone, Get, Set. -/
import Derived.Test.YtnegnmjjibhldaaA
import Derived.OwnWalk
import Derived.Maps.AppendAt
import Derived.Laws.OwnMore
import Derived.StillTailTactics
namespace Go.Proofs.Ytnegnmjjibhldaa
open Go.RowKit
def u64v (x : Nat) : Value := .int .u64 (x : Int)
/-- A row that a call made: block g, room for c words. -/
def Own64 (W : World) (g c : Nat) (xs : List Nat) : Prop := W.ownsRow 0 55 1 (.slice (some ⟨g, 0, none⟩) xs.length c) xs.length (xs.map u64v)
abbrev rowV (g n c : Nat) : Value := .slice (some ⟨g, 0, none⟩) n c
theorem Own64.cell {W : World} {g c : Nat} {xs : List Nat} (h : Own64 W g c xs) {j : Nat} (hj : j < xs.length) : W.cell? ⟨g, j, none⟩ = some (.int .u64 ((xs.getD j 0 : Nat) : Int)) := by
  rw [World.ownsRow.cellAt h j (by omega), List.getElem?_map, List.getElem?_eq_getElem hj, List.getD_eq_getElem?_getD, List.getElem?_eq_getElem hj]
  rfl
theorem Own64.frozen {W : World} {g c : Nat} {xs : List Nat} (h : Own64 W g c xs) (j : Nat) : W.frozen? ⟨g, j, none⟩ = false := World.ownsRow.frozenAt h j
theorem Own64.le {W : World} {g c : Nat} {xs : List Nat} (h : Own64 W g c xs) : xs.length ≤ c := by
  rcases h.2 with ⟨h, _⟩ | ⟨g', cap, cur, h, _, _, hn, _⟩
  · cases h
  · cases h; exact hn
theorem Own64.lt {W : World} {g c : Nat} {xs : List Nat} (h : Own64 W g c xs) : g < W.heap.size := (World.ownsRow.lt h g rfl).2
theorem Own64.row {W : World} {g c : Nat} {xs : List Nat} (h : Own64 W g c xs) : URow W (rowV g xs.length c) xs :=
  ⟨_, c, rfl, h.le, fun i x hi => ⟨g, 0, rfl, by
    have hj := (List.getElem?_eq_some_iff.1 hi).1
    rw [Nat.zero_add, h.cell hj, List.getD_eq_getElem?_getD, hi]; rfl⟩⟩
theorem Own64.below {W W' : World} {g c : Nat} {xs : List Nat} {B : Nat} (h : Own64 W g c xs) (hb : Below B W W') (hg : g < B) : Own64 W' g c xs := by
  refine ⟨h.1, ?_⟩
  rcases h.2 with ⟨h, _⟩ | ⟨g', cap, cur, h, hb0, hgg, rest⟩
  · cases h
  · cases h; exact .inr ⟨g, c, cur, rfl, hb0, (hb.block _ hg).trans hgg, rest⟩
theorem Own64.drewN {W : World} {g c : Nat} {xs : List Nat} (h : Own64 W g c xs) (d : Nat) : Own64 (W.drewN d) g c xs := h
theorem Own64.drew {W : World} {g c : Nat} {xs : List Nat} (h : Own64 W g c xs) : Own64 W.drew g c xs := h
theorem Own64.alloc {W : World} {g c : Nat} {xs : List Nat} (h : Own64 W g c xs) (o : Obj) : Own64 (W.alloc o) g c xs := World.ownsRow.alloc h o
theorem Own64.set {W : World} {g c : Nat} {xs : List Nat} (h : Own64 W g c xs) (j x : Nat) : Own64 (W.setCell ⟨g, j, none⟩ (.int .u64 (x : Int))) g c (xs.set j x) := by
  have := World.ownsRow.stored h j (u64v x)
  unfold Own64
  rw [List.length_set, List.map_set]
  exact this.1
theorem u64_info : (Try.prog.info? 55).map (fun i => (i.zero, i.size, i.bytes)) = some (some (.int .u64 0), 1, 8) := by kernel_rfl
theorem u64v_one (xs : List Nat) : ∀ u ∈ xs.map u64v, u.oneCell' = true := by
  intro u hu
  obtain ⟨x, _, rfl⟩ := List.mem_map.1 hu
  rfl
theorem URow.cells {W : World} {b o : Nat} {xs : List Nat} (h : ∀ i x, xs[i]? = some x → W.cell? ⟨b, o + i, none⟩ = some (.int .u64 (x : Nat))) : ∀ j u, (xs.map u64v)[j]? = some u → W.cell? ((⟨b, o, none⟩ : Addr).add j) = some u := by
  intro j u hu
  rw [List.getElem?_map] at hu
  cases e : xs[j]? with
  | none => rw [e] at hu; cases hu
  | some x =>
    rw [e] at hu; cases hu
    have hadd : (⟨b, o, none⟩ : Addr).add j = ⟨b, o + j, none⟩ := by unfold Addr.add; split <;> simp_all
    rw [hadd]; exact h j x e
/-- A row with a word: what it is in memory. -/
theorem URow.form {W : World} {v : Value} {xs : List Nat} (h : URow W v xs) (hn : 0 < xs.length) : ∃ b o c, v = .slice (some ⟨b, o, none⟩) xs.length c ∧ xs.length ≤ c ∧ ∀ i x, xs[i]? = some x → W.cell? ⟨b, o + i, none⟩ = some (.int .u64 (x : Nat)) := by
  obtain ⟨p, c, rfl, hc, hx⟩ := h
  obtain ⟨b, o, rfl, _⟩ := hx 0 xs[0] (List.getElem?_eq_getElem hn)
  refine ⟨b, o, c, rfl, hc, fun i x hi => ?_⟩
  obtain ⟨b', o', e, h⟩ := hx i x hi
  cases e; exact h
theorem URow.later {W : World} {v : Value} {xs : List Nat} (h : URow W v xs) (hn : 0 < xs.length) : ∃ b o c, v = .slice (some ⟨b, o, none⟩) xs.length c ∧ b < W.heap.size ∧
    ∀ w' i x, Below W.heap.size W w' → xs[i]? = some x → w'.cell? ⟨b, o + i, none⟩ = some (.int .u64 (x : Nat)) := by
  obtain ⟨b, o, c, rfl, _, hx⟩ := h.form hn
  have hlt : b < W.heap.size := by
    have hcell := hx 0 xs[0] (List.getElem?_eq_getElem hn)
    rcases Nat.lt_or_ge b W.heap.size with h | h
    · exact h
    · simp [World.cell?, Array.getElem?_eq_none h] at hcell
  refine ⟨b, o, c, rfl, hlt, fun w' i x hb hi => ?_⟩
  have hcell := hx i x hi
  exact (hb.cell (p := ⟨b, o + i, none⟩) hlt).trans hcell
/-- 'append([]uint64{}, v...)' at a row with a word. -/
theorem wpList_cloneU {ops : Array Oper} {rest : List Oper} {o : Oper} {a : Act} {Q : Exit → Act → World → Prop} {w : World} (hgd : o.guard = none) (s x : Operand)
    (ho : o.op = .call { callee := .builtin .append, args := #[s, x], argTypes := #[22, 22] }) (xs : List Nat) (b k n c : Nat)
    (hs : a.eval s = .slice (some ⟨w.heap.size, 0, none⟩) 0 0) (hx : a.eval x = .slice (some ⟨b, k, none⟩) n c) (hn : Hid (xs.length = n)) (h0 : 0 < n) (hl : n ≤ 1000)
    (hcell : ∀ i x, xs[i]? = some x → w.cell? ⟨b, k + i, none⟩ = some (.int .u64 (x : Nat)))
    (h : ∀ g cap w1, w.heap.size ≤ g → Own64 w1 g cap xs → Below w.heap.size w w1 → wpList Try.prog ops Q rest (a.put o.dst (rowV g n cap)) w1) :
    wpList Try.prog ops Q (o :: rest) a (w.alloc (.cells #[] 55)) := by
  obtain ⟨i0, hi, hz0, hz1, hz2⟩ := info_parts u64_info
  have hxn := hn.out
  have hlt : b < w.heap.size := by
    have hx0 := hcell 0 (xs[0]'(by omega)) (List.getElem?_eq_getElem (by omega))
    rcases Nat.lt_or_ge b w.heap.size with h | h
    · exact h
    · simp [World.cell?, Array.getElem?_eq_none h] at hx0
  have hc1 : (xs.map u64v).length = n * 1 := by simp [hxn]
  have hc2 : ∀ j u, (xs.map u64v)[j]? = some u → (w.alloc (.cells #[] 55)).cell? ((⟨b, k, none⟩ : Addr).add j) = some u := fun j u h => (World.cell?_alloc_lt _ _ _ (by rw [show ((⟨b, k, none⟩ : Addr).add j).block = b by unfold Addr.add; split <;> simp_all]; exact hlt)).trans (URow.cells hcell j u h)
  refine wpList_append_own_at _ hgd s x 22 ho 0 55 i0 (.int .u64 0) 1 8 Try.underlying22 hi hz0 hz1 hz2 rfl (by decide) (.slice (some ⟨w.heap.size, 0, none⟩) 0 0) 0 [] hs (World.ownsRow_made w #[] 0 (Nat.zero_le _) (by decide) rfl) ⟨b, k, none⟩ n c (xs.map u64v) hx hc1 hc2 (u64v_one _) (by simp only [maxLen]; omega) (by omega) (Nat.zero_le _) ?_
  intro v' w1 hown hg _ hat
  have hb : Below w.heap.size w w1 := ((Below.refl _ w).alloc (Nat.le_refl _) _).grown hg (by simp) (fun k e => by cases e; exact Nat.le_refl _)
  obtain ⟨g, cap, rfl, h1, h2⟩ : ∃ g cap, v' = .slice (some ⟨g, 0, none⟩) n cap ∧ w.heap.size ≤ g ∧ g < w1.heap.size := by
    have hlt := World.ownsRow.lt hown
    rcases hown.2 with ⟨_, e⟩ | ⟨g, cap, cur, rfl, _, _, _⟩
    · omega
    · refine ⟨g, cap, by rw [Nat.zero_add], ?_, (hlt g rfl).2⟩
      rcases hat with e | e <;> (cases e; simp)
  refine h g cap w1 h1 ?_ hb
  unfold Own64
  rw [hxn]
  simpa using hown
theorem clone_any (v : Value) (xs : List Nat) (w : World) (hv : URow w v xs) (hn : 0 < xs.length) (hl : xs.length ≤ 1000) :
    Calls Try.prog 41 #[v] w fun e w' => ∃ g c, e = .returned (rowV g xs.length c) ∧ w.heap.size ≤ g ∧ Own64 w' g c xs ∧ Below w.heap.size w w' := by
  obtain ⟨b, o, c, rfl, hc, hx⟩ := hv.form hn
  generalize hxn : xs.length = n at *
  have HN := Lib.hid hxn
  have HX := Lib.hid hx
  clear hx hxn
  go_enter Try.func41, Try.ntmps41
  have hq : ∀ W : World, (binOp .eql 22 (.slice (some ⟨b, o, none⟩) n c) (.slice none 0 0)).run Try.prog W = .ok (.bool false) W := fun W => Lib.run_eql_slice_nil W _ 55 _ _ _ _ _ Try.underlying22
  go_wp2_with (at_builtin; refine wpList_cloneU rfl _ _ rfl xs b o n c (by rfl) (by rfl) HN hn hl HX.out ?_; intro g cap w1 hg hown hb)
  go_ret
  exact ⟨g, cap, rfl, hg, hown, hb⟩
end Go.Proofs.Ytnegnmjjibhldaa
