/- step, Load, Store. -/
import Derived.Test.YtalnhbjpfnodiaaE
namespace Go.Proofs.Ytalnhbjpfnodiaa
open Go.RowKit
/-- Why a step may not be made. -/
def stepE (n m : Nat) (x : Int) : Int := if x < 0 ∨ (n : Int) ≤ x then 7 else if m = 8388608 then 3 else 0
theorem stepE_range {n m : Nat} {x : Int} (h : x < 0 ∨ (n : Int) ≤ x) : stepE n m x = 7 := if_pos h
theorem stepE_long {n a : Nat} (h : a < n) : stepE n 8388608 (a : Int) = 3 := by unfold stepE; rw [if_neg (by omega), if_pos rfl]
theorem stepE_ok {n m a : Nat} (h : a < n) (hm : m < 8388608) : stepE n m (a : Int) = 0 := by unfold stepE; rw [if_neg (by omega), if_neg (by omega)]
theorem stepE_cases {n m : Nat} (hm : m ≤ 8388608) (x : Int) : (stepE n m x = 7 ∧ (x < 0 ∨ (n : Int) ≤ x)) ∨ (∃ a : Nat, x = (a : Int) ∧ a < n ∧ m = 8388608 ∧ stepE n m x = 3) ∨ (∃ a : Nat, x = (a : Int) ∧ a < n ∧ m < 8388608 ∧ stepE n m x = 0) := by
  by_cases h : x < 0 ∨ (n : Int) ≤ x
  · exact .inl ⟨stepE_range h, h⟩
  · obtain ⟨a, rfl⟩ := Int.eq_ofNat_of_zero_le (show 0 ≤ x by omega)
    by_cases h2 : m = 8388608
    · subst h2; exact .inr (.inl ⟨a, rfl, by omega, rfl, stepE_long (by omega)⟩)
    · exact .inr (.inr ⟨a, rfl, by omega, by omega, stepE_ok (by omega) (by omega)⟩)
section
variable {w : World} {F : Nat → Prop} {p cb : Nat} {pv rv : Value} {pg cs : List Nat} {rs : List Rg} {tr : List (Nat × Nat)}
theorem step_bad (h : ArX w F p cb pv rv pg cs rs tr) (k x : Int) (hx : stepE cs.length tr.length x ≠ 0) :
    Calls Try.prog 65 #[.pointer (some ⟨p, 0, none⟩), .int .i64 k, .int .i64 x] w fun e w' => e = .returned (.int .i64 (stepE cs.length tr.length x)) ∧ w = w' := by
  have c3 := h.c3
  have hn := h.ncs
  have HV := Lib.hid (valid_any h)
  have HL := Lib.hid (left_any h)
  have HC := stepE_cases (n := cs.length) h.long x
  generalize cs.length = n at *
  generalize tr.length = m at *
  clear h
  rcases HC with ⟨e, h1⟩ | ⟨a, rfl, h1, h2, e⟩ | ⟨a, rfl, h1, h2, e⟩
  · rw [e]
    clear e hx
    by_cases h2 : x < 0
    · have t1 : decide (x < 0) = true := decide_eq_true h2
      clear h1
      go_enter Try.func65, Try.ntmps65
      go_wp2_with (go_at_call 61; refine HV.out.mono ?_; rintro e w' ⟨rfl, rfl⟩)
      go_ret
      exact ⟨rfl, rfl⟩
    · have t1 : decide (x < 0) = false := decide_eq_false h2
      have t2 : decide ((n : Int) ≤ x) = true := decide_eq_true (by omega)
      clear h1
      go_enter Try.func65, Try.ntmps65
      go_wp2_with (go_at_call 61; refine HV.out.mono ?_; rintro e w' ⟨rfl, rfl⟩)
      go_ret
      exact ⟨rfl, rfl⟩
  · rw [e]
    subst h2
    clear e hx
    have t1 : decide ((a : Int) < 0) = false := decide_eq_false (by omega)
    have t2 : decide ((n : Int) ≤ (a : Int)) = false := decide_eq_false (by omega)
    go_enter Try.func65, Try.ntmps65
    go_wp2_with (first | (go_at_call 61; refine HV.out.mono ?_; rintro e w' ⟨rfl, rfl⟩) | (go_at_call 75; refine HL.out.mono ?_; rintro e w' ⟨rfl, rfl⟩))
    go_ret
    exact ⟨rfl, rfl⟩
  · exact absurd e hx
theorem step_good (h : ArX w F p cb pv rv pg cs rs tr) (k a : Nat) (hk : 1 ≤ k ∧ k < 3) (ha : a < cs.length) (hl : tr.length < 8388608) :
    Calls Try.prog 65 #[.pointer (some ⟨p, 0, none⟩), .int .i64 (k : Int), .int .i64 (a : Int)] w fun e w' => e = .returned (.int .i64 0) ∧ Step w F p cs rs (tr ++ [(k, a)]) w' := by
  have c3 := h.c3
  have hn := h.ncs
  have HV := Lib.hid (valid_any h)
  have HL := Lib.hid (left_any h)
  have HA := Lib.hid (add_any h k a hk ha hl)
  obtain ⟨n, hnn⟩ : ∃ n, n = cs.length := ⟨_, rfl⟩
  obtain ⟨m, hmm⟩ : ∃ m, m = tr.length := ⟨_, rfl⟩
  rw [← hnn] at c3 hn ha
  rw [← hmm] at HL hl
  clear h hnn hmm
  have t1 : decide ((a : Int) < 0) = false := decide_eq_false (by omega)
  have t2 : decide ((n : Int) ≤ (a : Int)) = false := decide_eq_false (by omega)
  have t3 : ((8388608 - (m : Int)) == 0) = false := by simp; omega
  go_enter Try.func65, Try.ntmps65
  go_wp2_with (first | (go_at_call 61; refine HV.out.mono ?_; rintro e w' ⟨rfl, rfl⟩) | (go_at_call 75; refine HL.out.mono ?_; rintro e w' ⟨rfl, rfl⟩) | (go_at_call 82; refine HA.out.mono ?_; rintro e w' ⟨rfl, hs⟩; have HS := Lib.hid hs; clear hs))
  go_ret
  exact ⟨rfl, HS.out⟩
theorem getD_some {l : List Nat} {i : Nat} (h : i < l.length) : l[i]? = some (l.getD i 0) := by
  rw [List.getD_eq_getElem?_getD, List.getElem?_eq_getElem h]; rfl
/-- Load and Store, when there is an error. -/
theorem load_bad (h : ArX w F p cb pv rv pg cs rs tr) (x : Int) (hx : stepE cs.length tr.length x ≠ 0) :
    Calls Try.prog 76 #[.pointer (some ⟨p, 0, none⟩), .int .i64 x] w fun e w' => e = .returned (.tuple #[.int .u64 0, .int .i64 (stepE cs.length tr.length x)]) ∧ w = w' := by
  have HS := Lib.hid (step_bad h 1 x hx)
  generalize stepE cs.length tr.length x = E at *
  have t1 : (E != 0) = true := by simpa using hx
  clear h hx
  go_enter Try.func76, Try.ntmps76
  go_wp2_with (go_at_call 65; refine HS.out.mono ?_; rintro e w' ⟨rfl, rfl⟩)
  go_ret2
  exact ⟨rfl, rfl⟩
theorem store_bad (h : ArX w F p cb pv rv pg cs rs tr) (x v : Int) (hx : stepE cs.length tr.length x ≠ 0) :
    Calls Try.prog 43 #[.pointer (some ⟨p, 0, none⟩), .int .i64 x, .int .u64 v] w fun e w' => e = .returned (.int .i64 (stepE cs.length tr.length x)) ∧ w = w' := by
  have HS := Lib.hid (step_bad h 2 x hx)
  generalize stepE cs.length tr.length x = E at *
  have t1 : (E != 0) = true := by simpa using hx
  clear h hx
  go_enter Try.func43, Try.ntmps43
  go_wp2_with (go_at_call 65; refine HS.out.mono ?_; rintro e w' ⟨rfl, rfl⟩)
  go_ret
  exact ⟨rfl, rfl⟩
theorem load_good (h : ArX w F p cb pv rv pg cs rs tr) (a : Nat) (ha : a < cs.length) (hl : tr.length < 8388608) :
    Calls Try.prog 76 #[.pointer (some ⟨p, 0, none⟩), .int .i64 (a : Int)] w fun e w' => e = .returned (.tuple #[u64v (cs.getD a 0), .int .i64 0]) ∧ Step w F p cs rs (tr ++ [(1, a)]) w' := by
  have HS := Lib.hid (step_good h 1 a (by decide) ha hl)
  have hn := h.ncs
  clear h
  unfold u64v
  obtain ⟨n, hnn⟩ : ∃ n, n = cs.length := ⟨_, rfl⟩
  have HN := Lib.hid hnn
  rw [← hnn] at hn ha
  clear hnn
  go_enter Try.func76, Try.ntmps76
  go_wp2_with (go_at_call 65; refine HS.out.mono ?_; rintro e w' ⟨rfl, hs⟩; have HT := Lib.hid hs; obtain ⟨F', e', ⟨cb', pv', rv', pg', h'⟩, hk'⟩ := hs; have c3 := h'.c3; have cc := h'.cells.cell (i := a) (by rw [← HN.out]; exact ha); rw [← HN.out] at c3; unfold u64v at cc; clear h' hk' e')
  go_ret2
  exact ⟨rfl, HT.out⟩
/-- A cell gets a value. -/
theorem ArX.store (h : ArX w F p cb pv rv pg cs rs tr) (a v : Nat) (hv : v < 18446744073709551616) : ArX (w.setCell ⟨cb, a, none⟩ (.int .u64 (v : Int))) F p cb pv rv pg (cs.set a v) rs tr := by
  have ne : ∀ g, (∃ (c : Array Value) (t : TypeId), w.heap[g]? = some (Obj.cells c t (0, 0)) ∧ t ≠ 22) → (w.setCell ⟨cb, a, none⟩ (.int .u64 (v : Int))).heap[g]? = w.heap[g]? := fun g hg => by
    obtain ⟨c, t, h1, h2⟩ := hg
    exact Below.heap_setCell _ _ _ _ (ne_type ⟨c, h1⟩ (row_type h.cells) h2)
  exact {
    lt := fun i hi => by have := h.lt i hi; simpa [World.setCell] using this
    blk := by rw [List.length_set]; exact (ne p ⟨_, _, h.blk, by decide⟩).trans h.blk
    fp := h.fp
    cells := by
      rw [List.length_set]
      refine (h.cells.set a _).congr fun i hi => ?_
      by_cases e : i = a
      · subst e
        rw [if_pos rfl, List.getD_eq_getElem?_getD, List.getElem?_set_self (by simpa using hi)]; rfl
      · rw [if_neg e, List.getD_eq_getElem?_getD, List.getD_eq_getElem?_getD, List.getElem?_set_ne (Ne.symm e)]
    fc := h.fc
    pages := own_of_block h.pages fun g hg => ne g (by obtain ⟨c, hc⟩ := own_type h.pages hg; exact ⟨c, _, hc, by decide⟩)
    fpv := h.fpv
    page := fun j b hb => ⟨(h.page j b hb).1.of_block (ne b (by obtain ⟨c, hc⟩ := row_type (h.page j b hb).1; exact ⟨c, _, hc, by decide⟩)), (h.page j b hb).2⟩
    nodup := h.nodup
    room := h.room
    good := by rw [List.length_set]; exact h.good
    long := h.long
    ncs := by rw [List.length_set]; exact h.ncs
    wcs := fun x hx => by
      rcases List.mem_or_eq_of_mem_set hx with h1 | h1
      · exact h.wcs x h1
      · rw [h1]; exact hv
    regs := own_of_block h.regs fun g hg => ne g (by obtain ⟨c, hc⟩ := own_type h.regs hg; exact ⟨c, _, hc, by decide⟩)
    frv := h.frv
    nrs := h.nrs
    wrs := by rw [List.length_set]; exact h.wrs }
theorem store_good (h : ArX w F p cb pv rv pg cs rs tr) (a v : Nat) (ha : a < cs.length) (hv : v < 18446744073709551616) (hl : tr.length < 8388608) :
    Calls Try.prog 43 #[.pointer (some ⟨p, 0, none⟩), .int .i64 (a : Int), .int .u64 (v : Int)] w fun e w' => e = .returned (.int .i64 0) ∧ Step w F p (cs.set a v) rs (tr ++ [(2, a)]) w' := by
  have HS := Lib.hid (step_good h 2 a (by decide) ha hl)
  have hn := h.ncs
  clear h
  obtain ⟨n, hnn⟩ : ∃ n, n = cs.length := ⟨_, rfl⟩
  have HN := Lib.hid hnn
  rw [← hnn] at hn ha
  clear hnn
  go_enter Try.func43, Try.ntmps43
  go_wp2_with (go_at_call 65; refine HS.out.mono ?_; rintro e w' ⟨rfl, hs⟩; obtain ⟨F', e', ⟨cb', pv', rv', pg', h'⟩, hk'⟩ := hs; have c3 := h'.c3; have cc := h'.cells.cell (i := a) (by rw [← HN.out]; exact ha); have cf := h'.cells.frozen a; rw [← HN.out] at c3; unfold u64v at cc; have H1 := Lib.hid h'; have H2 := Lib.hid hk'; have H3 := Lib.hid e'; clear h' hk' e')
  go_ret
  exact ⟨rfl, F', H3.out, ⟨_, _, _, _, H1.out.store a v hv⟩, H2.out.setCell (p := ⟨cb', a, none⟩) (H3.out _ H1.out.fc) _⟩
end
end Go.Proofs.Ytalnhbjpfnodiaa
