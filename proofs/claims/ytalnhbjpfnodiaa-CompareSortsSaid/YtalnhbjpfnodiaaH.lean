/- Rows of words: slices.Clone, Cells; Events, Since, Forget. -/
import Derived.Test.YtalnhbjpfnodiaaG
import Derived.Lib.SliceRun
namespace Go.Proofs.Ytalnhbjpfnodiaa
open Go.RowKit
/-- A slice of words in memory. -/
def URow (W : World) (v : Value) (xs : List Nat) : Prop :=
  ∃ p c, v = .slice p xs.length c ∧ xs.length ≤ c ∧ ∀ i x, xs[i]? = some x → ∃ b o, p = some ⟨b, o, none⟩ ∧ W.cell? ⟨b, o + i, none⟩ = some (.int .u64 (x : Nat))
theorem URow.below {w w' : World} {v : Value} {xs : List Nat} (h : URow w v xs) (hb : Below w.heap.size w w') : URow w' v xs := by
  obtain ⟨p, c, rfl, hc, hx⟩ := h
  refine ⟨p, c, rfl, hc, fun i x hi => ?_⟩
  obtain ⟨b, o, rfl, hcell⟩ := hx i x hi
  have hlt : b < w.heap.size := by
    rcases Nat.lt_or_ge b w.heap.size with h | h
    · exact h
    · simp [World.cell?, Array.getElem?_eq_none h] at hcell
  exact ⟨b, o, rfl, (hb.cell (p := ⟨b, o + i, none⟩) hlt).trans hcell⟩
theorem URow.drewN {w : World} {v : Value} {xs : List Nat} (h : URow w v xs) (d : Nat) : URow (w.drewN d) v xs := h
/-- A row that a call made: block g, room for c words. -/
def Own64 (W : World) (g c : Nat) (xs : List Nat) : Prop := W.ownsRow 0 22 1 (.slice (some ⟨g, 0, none⟩) xs.length c) xs.length (xs.map u64v)
abbrev rowV (g n c : Nat) : Value := .slice (some ⟨g, 0, none⟩) n c
theorem Own64.cell {W : World} {g c : Nat} {xs : List Nat} (h : Own64 W g c xs) {j : Nat} (hj : j < xs.length) : W.cell? ⟨g, j, none⟩ = some (.int .u64 ((xs.getD j 0 : Nat) : Int)) := by
  rw [World.ownsRow.cellAt h j (by omega), List.getElem?_map, List.getElem?_eq_getElem hj, List.getD_eq_getElem?_getD, List.getElem?_eq_getElem hj]
  rfl
theorem Own64.frozen {W : World} {g c : Nat} {xs : List Nat} (h : Own64 W g c xs) (j : Nat) : W.frozen? ⟨g, j, none⟩ = false := World.ownsRow.frozenAt h j
theorem Own64.le {W : World} {g c : Nat} {xs : List Nat} (h : Own64 W g c xs) : xs.length ≤ c := by
  rcases h.2 with ⟨h, _⟩ | ⟨g', cap, cur, h, _, _, hn, _⟩
  · cases h
  · cases h; exact hn
theorem Own64.lt {W : World} {g c : Nat} {xs : List Nat} (h : Own64 W g c xs) : g < W.heap.size := (World.ownsRow.lt h g rfl).2
theorem Own64.row {W : World} {g c : Nat} {xs : List Nat} (h : Own64 W g c xs) : URow W (rowV g xs.length c) xs :=
  ⟨_, c, rfl, h.le, fun i x hi => ⟨g, 0, rfl, by
    have hj := (List.getElem?_eq_some_iff.1 hi).1
    rw [Nat.zero_add, h.cell hj, List.getD_eq_getElem?_getD, hi]; rfl⟩⟩
theorem Own64.below {W W' : World} {g c : Nat} {xs : List Nat} {B : Nat} (h : Own64 W g c xs) (hb : Below B W W') (hg : g < B) : Own64 W' g c xs := by
  refine ⟨h.1, ?_⟩
  rcases h.2 with ⟨h, _⟩ | ⟨g', cap, cur, h, hb0, hgg, rest⟩
  · cases h
  · cases h; exact .inr ⟨g, c, cur, rfl, hb0, (hb.block _ hg).trans hgg, rest⟩
theorem Own64.drewN {W : World} {g c : Nat} {xs : List Nat} (h : Own64 W g c xs) (d : Nat) : Own64 (W.drewN d) g c xs := h
theorem Own64.drew {W : World} {g c : Nat} {xs : List Nat} (h : Own64 W g c xs) : Own64 W.drew g c xs := h
theorem Own64.alloc {W : World} {g c : Nat} {xs : List Nat} (h : Own64 W g c xs) (o : Obj) : Own64 (W.alloc o) g c xs := World.ownsRow.alloc h o
theorem Own64.set {W : World} {g c : Nat} {xs : List Nat} (h : Own64 W g c xs) (j x : Nat) : Own64 (W.setCell ⟨g, j, none⟩ (.int .u64 (x : Int))) g c (xs.set j x) := by
  have := World.ownsRow.stored h j (u64v x)
  unfold Own64
  rw [List.length_set, List.map_set]
  exact this.1
theorem u64v_one (xs : List Nat) : ∀ u ∈ xs.map u64v, u.oneCell' = true := by
  intro u hu
  obtain ⟨x, _, rfl⟩ := List.mem_map.1 hu
  rfl
theorem URow.cells {W : World} {b o : Nat} {xs : List Nat} (h : ∀ i x, xs[i]? = some x → W.cell? ⟨b, o + i, none⟩ = some (.int .u64 (x : Nat))) : ∀ j u, (xs.map u64v)[j]? = some u → W.cell? ((⟨b, o, none⟩ : Addr).add j) = some u := by
  intro j u hu
  rw [List.getElem?_map] at hu
  cases e : xs[j]? with
  | none => rw [e] at hu; cases hu
  | some x =>
    rw [e] at hu; cases hu
    have hadd : (⟨b, o, none⟩ : Addr).add j = ⟨b, o + j, none⟩ := by unfold Addr.add; split <;> simp_all
    rw [hadd]; exact h j x e
/-- A row with a word: what it is in memory. -/
theorem URow.form {W : World} {v : Value} {xs : List Nat} (h : URow W v xs) (hn : 0 < xs.length) : ∃ b o c, v = .slice (some ⟨b, o, none⟩) xs.length c ∧ xs.length ≤ c ∧ ∀ i x, xs[i]? = some x → W.cell? ⟨b, o + i, none⟩ = some (.int .u64 (x : Nat)) := by
  obtain ⟨p, c, rfl, hc, hx⟩ := h
  obtain ⟨b, o, rfl, _⟩ := hx 0 xs[0] (List.getElem?_eq_getElem hn)
  refine ⟨b, o, c, rfl, hc, fun i x hi => ?_⟩
  obtain ⟨b', o', e, h⟩ := hx i x hi
  cases e; exact h
theorem URow.later {W : World} {v : Value} {xs : List Nat} (h : URow W v xs) (hn : 0 < xs.length) : ∃ b o c, v = .slice (some ⟨b, o, none⟩) xs.length c ∧ b < W.heap.size ∧
    ∀ w' i x, Below W.heap.size W w' → xs[i]? = some x → w'.cell? ⟨b, o + i, none⟩ = some (.int .u64 (x : Nat)) := by
  obtain ⟨b, o, c, rfl, _, hx⟩ := h.form hn
  have hlt : b < W.heap.size := by
    have hcell := hx 0 xs[0] (List.getElem?_eq_getElem hn)
    rcases Nat.lt_or_ge b W.heap.size with h | h
    · exact h
    · simp [World.cell?, Array.getElem?_eq_none h] at hcell
  refine ⟨b, o, c, rfl, hlt, fun w' i x hb hi => ?_⟩
  have hcell := hx i x hi
  exact (hb.cell (p := ⟨b, o + i, none⟩) hlt).trans hcell
/-- 'append([]uint64{}, v...)' at a row with a word. -/
theorem wpList_cloneU {ops : Array Oper} {rest : List Oper} {o : Oper} {a : Act} {Q : Exit → Act → World → Prop} {w : World} (hgd : o.guard = none) (s x : Operand)
    (ho : o.op = .call { callee := .builtin .append, args := #[s, x], argTypes := #[27, 27] }) (xs : List Nat) (b k n c : Nat)
    (hs : a.eval s = .slice (some ⟨w.heap.size, 0, none⟩) 0 0) (hx : a.eval x = .slice (some ⟨b, k, none⟩) n c) (hn : Hid (xs.length = n)) (h0 : 0 < n) (hl : n ≤ 100000)
    (hcell : ∀ i x, xs[i]? = some x → w.cell? ⟨b, k + i, none⟩ = some (.int .u64 (x : Nat)))
    (h : ∀ g cap w1, w.heap.size ≤ g → Own64 w1 g cap xs → Below w.heap.size w w1 → wpList Try.prog ops Q rest (a.put o.dst (rowV g n cap)) w1) :
    wpList Try.prog ops Q (o :: rest) a (w.alloc (.cells #[] 22)) := by
  obtain ⟨i0, hi, hz0, hz1, hz2⟩ := info_parts u64_info
  have hxn := hn.out
  have hlt : b < w.heap.size := by
    have hx0 := hcell 0 (xs[0]'(by omega)) (List.getElem?_eq_getElem (by omega))
    rcases Nat.lt_or_ge b w.heap.size with h | h
    · exact h
    · simp [World.cell?, Array.getElem?_eq_none h] at hx0
  have hc1 : (xs.map u64v).length = n * 1 := by simp [hxn]
  have hc2 : ∀ j u, (xs.map u64v)[j]? = some u → (w.alloc (.cells #[] 22)).cell? ((⟨b, k, none⟩ : Addr).add j) = some u := fun j u h => (World.cell?_alloc_lt _ _ _ (by rw [show ((⟨b, k, none⟩ : Addr).add j).block = b by unfold Addr.add; split <;> simp_all]; exact hlt)).trans (URow.cells hcell j u h)
  refine wpList_append_own_at _ hgd s x 27 ho 0 22 i0 (.int .u64 0) 1 8 Try.underlying27 hi hz0 hz1 hz2 rfl (by decide) (.slice (some ⟨w.heap.size, 0, none⟩) 0 0) 0 [] hs (World.ownsRow_made w #[] 0 (Nat.zero_le _) (by decide) rfl) ⟨b, k, none⟩ n c (xs.map u64v) hx hc1 hc2 (u64v_one _) (by simp only [maxLen]; omega) (by omega) (Nat.zero_le _) ?_
  intro v' w1 hown hg _ hat
  have hb : Below w.heap.size w w1 := ((Below.refl _ w).alloc (Nat.le_refl _) _).grown hg (by simp) (fun k e => by cases e; exact Nat.le_refl _)
  obtain ⟨g, cap, rfl, h1, h2⟩ : ∃ g cap, v' = .slice (some ⟨g, 0, none⟩) n cap ∧ w.heap.size ≤ g ∧ g < w1.heap.size := by
    have hlt := World.ownsRow.lt hown
    rcases hown.2 with ⟨_, e⟩ | ⟨g, cap, cur, rfl, _, _, _⟩
    · omega
    · refine ⟨g, cap, by rw [Nat.zero_add], ?_, (hlt g rfl).2⟩
      rcases hat with e | e <;> (cases e; simp)
  refine h g cap w1 h1 ?_ hb
  unfold Own64
  rw [hxn]
  simpa using hown
theorem uclone_any (v : Value) (xs : List Nat) (w : World) (hv : URow w v xs) (hn : 0 < xs.length) (hl : xs.length ≤ 100000) :
    Calls Try.prog 63 #[v] w fun e w' => ∃ g c, e = .returned (rowV g xs.length c) ∧ w.heap.size ≤ g ∧ Own64 w' g c xs ∧ Below w.heap.size w w' := by
  obtain ⟨b, o, c, rfl, hc, hx⟩ := hv.form hn
  generalize hxn : xs.length = n at *
  have HN := Lib.hid hxn
  have HX := Lib.hid hx
  clear hx hxn
  go_enter Try.func63, Try.ntmps63
  have hq : ∀ W : World, (binOp .eql 27 (.slice (some ⟨b, o, none⟩) n c) (.slice none 0 0)).run Try.prog W = .ok (.bool false) W := fun W => Lib.run_eql_slice_nil W _ 22 _ _ _ _ _ Try.underlying27
  go_wp2_with (at_builtin; refine wpList_cloneU rfl _ _ rfl xs b o n c (by rfl) (by rfl) HN hn hl HX.out ?_; intro g cap w1 hg hown hb)
  go_ret
  exact ⟨g, cap, rfl, hg, hown, hb⟩

/-- Events in memory. -/
def ES (W : World) (v : Value) (xs : List (Nat × Nat)) : Prop :=
  ∃ q c, v = .slice q xs.length c ∧ ∀ i e, xs[i]? = some e → ∃ b o, q = some ⟨b, o, none⟩ ∧ W.cell? ⟨b, o + i * 2, none⟩ = some (.int .i32 (e.1 : Int)) ∧ W.cell? ⟨b, o + i * 2 + 1, none⟩ = some (.int .i32 (e.2 : Int)) ∧ b < W.heap.size
theorem ES.below {w w' : World} {v : Value} {xs : List (Nat × Nat)} (h : ES w v xs) (hb : Below w.heap.size w w') : ES w' v xs := by
  obtain ⟨q, c, rfl, hx⟩ := h
  refine ⟨q, c, rfl, fun i e hi => ?_⟩
  obtain ⟨b, o, rfl, h1, h2, h3⟩ := hx i e hi
  exact ⟨b, o, rfl, (hb.cell (p := ⟨b, o + i * 2, none⟩) h3).trans h1, (hb.cell (p := ⟨b, o + i * 2 + 1, none⟩) h3).trans h2, Nat.lt_of_lt_of_le h3 hb.size⟩
theorem ES.nil (W : World) : ES W (.slice none 0 0) [] := ⟨none, 0, rfl, fun i e h => by simp at h⟩
theorem ERow.es {W : World} {B n : Nat} {f : Nat → Nat × Nat} {xs : List (Nat × Nat)} (h : ERow W B n f) (hl : xs.length = n) (he : ∀ i, i < n → f i = xs.getD i (0, 0)) : ES W (.slice (some ⟨B, 0, none⟩) n n) xs := by
  have hlt := h.lt
  obtain ⟨cs, hb, hs, hc⟩ := h
  subst hl
  refine ⟨_, _, rfl, fun i e hi => ⟨B, 0, rfl, ?_⟩⟩
  have hin := (List.getElem?_eq_some_iff.1 hi).1
  have h1 := hc i hin
  rw [he i hin, List.getD_eq_getElem?_getD, hi] at h1
  rw [cell_blk hb, cell_blk hb, Nat.zero_add]
  exact ⟨h1.1, h1.2, hlt⟩
/-- A call that returns events. -/
def EvPost (w : World) (xs : List (Nat × Nat)) (e : Ending) (w' : World) : Prop := ∃ v, e = .returned v ∧ ES w' v xs ∧ Below w.heap.size w w'
def SiPost (w : World) (xs : List (Nat × Nat)) (e : Ending) (w' : World) : Prop := ∃ v, e = .returned (.tuple #[v, .int .i64 0]) ∧ ES w' v xs ∧ Below w.heap.size w w'
section
variable {w : World} {F : Nat → Prop} {p cb : Nat} {pv rv : Value} {pg cs : List Nat} {rs : List Rg} {tr : List (Nat × Nat)}
theorem from_es (h : ArX w F p cb pv rv pg cs rs tr) (first : Nat) (hf : first ≤ tr.length) :
    Calls Try.prog 62 #[.pointer (some ⟨p, 0, none⟩), .int .i64 (first : Int)] w (EvPost w (tr.drop first)) :=
  (from_any h first (tr.length - first) (by omega)).mono fun e w' ⟨g, he, hr, hb⟩ => ⟨_, he, hr.es (by rw [List.length_drop]) (fun i hi => by rw [List.getD_eq_getElem?_getD, List.getD_eq_getElem?_getD, List.getElem?_drop]), hb⟩
theorem events_any (h : ArX w F p cb pv rv pg cs rs tr) : Calls Try.prog 31 #[.pointer (some ⟨p, 0, none⟩)] w (EvPost w tr) := by
  have HV := Lib.hid (valid_any h)
  have HF := Lib.hid (from_es h 0 (Nat.zero_le _))
  rw [List.drop_zero] at HF
  clear h
  go_enter Try.func31, Try.ntmps31
  go_wp2_with (first | (go_at_call 61; refine HV.out.mono ?_; rintro e w' ⟨rfl, rfl⟩) | (go_at_call 62; refine HF.out.mono ?_; rintro e w' ⟨v, rfl, he, hb⟩; have HE := Lib.hid he; clear he))
  go_ret
  exact ⟨_, rfl, HE.out, hb⟩
theorem ArX.urow (h : ArX w F p cb pv rv pg cs rs tr) : URow w (.slice (some ⟨cb, 0, none⟩) cs.length cs.length) cs :=
  ⟨_, _, rfl, Nat.le_refl _, fun i x hi => ⟨cb, 0, rfl, by
    have hin := (List.getElem?_eq_some_iff.1 hi).1
    rw [Nat.zero_add, h.cells.cell hin, List.getD_eq_getElem?_getD, hi]; rfl⟩⟩
def CePost (w : World) (cs : List Nat) (e : Ending) (w' : World) : Prop := ∃ g c, e = .returned (.slice (some ⟨g, 0, none⟩) cs.length c) ∧ w.heap.size ≤ g ∧ Own64 w' g c cs ∧ Below w.heap.size w w'
theorem cells_any (h : ArX w F p cb pv rv pg cs rs tr) : Calls Try.prog 32 #[.pointer (some ⟨p, 0, none⟩)] w (CePost w cs) := by
  have HV := Lib.hid (valid_any h)
  have c3 := h.c3
  have HU := Lib.hid (uclone_any _ cs w h.urow h.ncs.1 (by have := h.ncs; omega))
  clear h
  go_enter Try.func32, Try.ntmps32
  go_wp2_with (first | (go_at_call 61; refine HV.out.mono ?_; rintro e w' ⟨rfl, rfl⟩) | (go_at_call 63; refine HU.out.mono ?_; rintro e w' ⟨g, c, rfl, hg, ho, hb⟩; have HO := Lib.hid ho; clear ho))
  go_ret
  exact ⟨g, c, rfl, hg, HO.out, hb⟩
/-- The trace is forgotten. -/
theorem ArX.forget (h : ArX w F p cb pv rv pg cs rs tr) : ArX ((w.setCell ⟨p, 0, none⟩ (.slice none 0 0)).setCell ⟨p, 1, none⟩ (.int .i64 0)) F p cb (.slice none 0 0) rv [] cs rs [] := by
  have ne : ∀ g, (∃ (c : Array Value) (t : TypeId), w.heap[g]? = some (Obj.cells c t (0, 0)) ∧ t ≠ 84) → ((w.setCell ⟨p, 0, none⟩ (.slice none 0 0)).setCell ⟨p, 1, none⟩ (.int .i64 0)).heap[g]? = w.heap[g]? := fun g hg => by
    obtain ⟨c, t, h1, h2⟩ := hg
    have h3 : g ≠ p := ne_type ⟨c, h1⟩ h.tp h2
    exact (Below.heap_setCell _ _ _ _ h3).trans (Below.heap_setCell _ _ _ _ h3)
  exact {
    lt := fun i hi => by have := h.lt i hi; simpa [World.setCell] using this
    blk := heap_setCell_same _ p 1 _ _ (.int .i64 0) (heap_setCell_same _ p 0 _ _ (.slice none 0 0) h.blk)
    fp := h.fp
    cells := h.cells.of_block (ne cb (by obtain ⟨c, hc⟩ := row_type h.cells; exact ⟨c, _, hc, by decide⟩))
    fc := h.fc
    pages := World.ownsRow_nil _ _ _ _
    fpv := fun k hk => by cases hk
    page := fun j b hb => by simp at hb
    nodup := List.nodup_nil
    room := by simp
    good := fun e he => by cases he
    long := by simp
    ncs := h.ncs
    wcs := h.wcs
    regs := own_of_block h.regs fun g hg => ne g (by obtain ⟨c, hc⟩ := own_type h.regs hg; exact ⟨c, _, hc, by decide⟩)
    frv := h.frv
    nrs := h.nrs
    wrs := h.wrs }
end
end Go.Proofs.Ytalnhbjpfnodiaa
