/- The reference's Regions, Cells, Since, Events. -/
import Derived.Test.YtalnhbjpfnodiaaWb
import Derived.Laws.AppendOwnNone
namespace Go.Proofs.Ytalnhbjpfnodiaa
open Go.RowKit
theorem eflat_len (l : List (Nat × Nat)) : (l.flatMap ecl).length = l.length * 2 := by
  induction l with
  | nil => rfl
  | cons a l ih => rw [List.flatMap_cons, List.length_append, ih, List.length_cons]; simp [ecl]; omega
theorem eflat_drop (l : List (Nat × Nat)) : ∀ k, (l.drop k).flatMap ecl = (l.flatMap ecl).drop (k * 2) := by
  induction l with
  | nil => intro k; simp
  | cons a l ih =>
    intro k
    cases k with
    | zero => simp
    | succ k => rw [List.drop_succ_cons, ih, List.flatMap_cons, show (k + 1) * 2 = (ecl a).length + k * 2 by simp [ecl]; omega, List.drop_append]; simp
section
variable {w : World} {F : Nat → Prop} {p cb : Nat} {rv ev : Value} {cs : List Nat} {rs : List Rg} {tr : List (Nat × Nat)}
theorem flat_one {α : Type} {f : α → List Value} (h : ∀ a, ∀ u ∈ f a, u.oneCell' = true) (l : List α) : ∀ u ∈ l.flatMap f, u.oneCell' = true := by
  intro u hu
  obtain ⟨a, _, ha⟩ := List.mem_flatMap.1 hu
  exact h a u ha
theorem grown_new {w w6 : World} {o : Obj} {v : Value} (hg : (w.alloc o).grownBy w6 v.ownBlock) (hv : v.ownBlock = some w.heap.size) : Below w.heap.size w w6 :=
  ((Below.refl _ w).alloc (Nat.le_refl _) o).grown hg (by simp) (fun k e => by rw [hv] at e; cases e; exact Nat.le_refl _)
theorem rcells_any (h : RbX w F p cb rv ev cs rs tr) : Calls Try.prog 49 #[.pointer (some ⟨p, 0, none⟩)] w fun e w' => ∃ g c, e = .returned (.slice (some ⟨g, 0, none⟩) cs.length c) ∧ URow w' (.slice (some ⟨g, 0, none⟩) cs.length c) cs ∧ Below w.heap.size w w' := by
  have HV := Lib.hid (none_ok h)
  have hpl := h.lt _ h.fp
  have hn := h.ncs
  have HC := Lib.hid (show ∀ i x, cs[i]? = some x → w.cell? ⟨cb, 0 + i, none⟩ = some (.int .u64 (x : Nat)) from fun i x hi => by
    have hin := (List.getElem?_eq_some_iff.1 hi).1
    rw [Nat.zero_add, h.cells.cell hin, List.getD_eq_getElem?_getD, hi]; rfl)
  have a0 : ∀ o, (w.alloc o).cell? ⟨p, 0, none⟩ = _ := fun o => (World.cell?_of_block (fresh_lt hpl o)).trans h.c0
  obtain ⟨n, hnn⟩ : ∃ n, n = cs.length := ⟨_, rfl⟩
  rw [← hnn] at a0 hn ⊢
  have HN := Lib.hid hnn.symm
  clear h hnn
  go_enter Try.func49, Try.ntmps49
  go_wp2_with (first
    | (go_at_call 72; refine HV.out.mono ?_; rintro e w' ⟨rfl, rfl⟩)
    | (at_builtin; refine wpList_cloneU rfl _ _ rfl cs cb 0 n n (by rfl) (by rfl) HN (by omega) (by omega) HC.out ?_; intro g cap w1 hg hown hb; have HO := Lib.hid hown; clear hown))
  go_ret
  have := HO.out.row
  rw [HN.out] at this
  exact ⟨g, cap, rfl, this, hb⟩
theorem rsince_bad (h : RbX w F p cb rv ev cs rs tr) (x : Int) (hx : x < 0 ∨ (tr.length : Int) < x) : Calls Try.prog 73 #[.pointer (some ⟨p, 0, none⟩), .int .i64 x] w fun e w' => e = .returned (.tuple #[.slice none 0 0, .int .i64 7]) ∧ w = w' := by
  have HV := Lib.hid (none_ok h)
  obtain ⟨q, c, rfl⟩ := own_shape h.evs
  have c2 := h.c2
  clear h
  by_cases h2 : x < 0
  · have t1 : decide (x < 0) = true := decide_eq_true h2
    clear hx
    go_enter Try.func73, Try.ntmps73
    go_wp2_with (go_at_call 72; refine HV.out.mono ?_; rintro e w' ⟨rfl, rfl⟩)
    go_ret2
    exact ⟨rfl, rfl⟩
  · have t1 : decide (x < 0) = false := decide_eq_false h2
    have t2 : decide ((tr.length : Int) < x) = true := decide_eq_true (by omega)
    clear hx
    go_enter Try.func73, Try.ntmps73
    go_wp2_with (go_at_call 72; refine HV.out.mono ?_; rintro e w' ⟨rfl, rfl⟩)
    go_ret2
    exact ⟨rfl, rfl⟩
set_option maxRecDepth 100000 in
theorem rsince_good (h : RbX w F p cb rv ev cs rs tr) (k : Nat) (hk : k ≤ tr.length) : Calls Try.prog 73 #[.pointer (some ⟨p, 0, none⟩), .int .i64 (k : Int)] w (SiPost w (tr.drop k)) := by
  have HV := Lib.hid (none_ok h)
  have hpl := h.lt _ h.fp
  have hl := h.long
  have HO := Lib.hid (World.ownsRow.alloc h.evs (.cells #[] 77))
  have HM := Lib.hid (World.ownsRow_made w #[] (e := 77) (size := 2) (base := w.heap.size) 0 (Nat.le_refl _) (by decide) rfl)
  obtain ⟨i0, hi, hz0, hz1, hz2⟩ := info_parts ev_info
  have t1 : decide ((k : Int) < 0) = false := decide_eq_false (by omega)
  rcases h.evs.2 with ⟨hv, hn0⟩ | ⟨g, cap, cur, hv, _, _, hcap, _⟩
  · subst hv
    have htr := Lib.hid (List.eq_nil_of_length_eq_zero hn0)
    obtain rfl : k = 0 := by omega
    have c2 := h.c2
    have a2 : ∀ o, (w.alloc o).cell? ⟨p, 2, none⟩ = _ := fun o => (World.cell?_of_block (fresh_lt hpl o)).trans h.c2
    have t2 : decide ((tr.length : Int) < 0) = false := decide_eq_false (by omega)
    clear h hn0 hk
    go_enter Try.func73, Try.ntmps73
    go_wp2_with (first
      | (go_at_call 72; refine HV.out.mono ?_; rintro e w' ⟨rfl, rfl⟩)
      | (at_builtin; refine wpList_append_own_none rfl _ _ 46 rfl w.heap.size 77 i0 2 Try.underlying46 hi (.slice (some ⟨w.heap.size, 0, none⟩) 0 0) 0 [] rfl HM.out rfl ?_))
    go_ret2
    refine ⟨_, rfl, WR.es (B := w.heap.size) ?_, (Below.refl _ w).alloc (Nat.le_refl _) _⟩
    rw [htr.out]
    exact HM.out
  · subst hv
    have c2 := h.c2
    have a2 : ∀ o, (w.alloc o).cell? ⟨p, 2, none⟩ = _ := fun o => (World.cell?_of_block (fresh_lt hpl o)).trans h.c2
    have hlen := Lib.hid h.evs.1
    have t2 : decide ((tr.length : Int) < (k : Int)) = false := decide_eq_false (by omega)
    have t3 : (k : Int) ≤ (cap : Int) := by omega
    have t4 : (tr.length : Int) ≤ (cap : Int) := by omega
    have t5 : (k : Int) ≤ (tr.length : Int) := by omega
    clear h
    by_cases hck : cap = k
    · subst hck
      have e0 : tr.length - cap = 0 := by omega
      have hdr := Lib.hid (show tr.drop cap = [] from List.drop_of_length_le hcap)
      go_enter Try.func73, Try.ntmps73
      go_wp2_with (first
        | (go_at_call 72; refine HV.out.mono ?_; rintro e w' ⟨rfl, rfl⟩)
        | (at_builtin; refine wpList_append_own_at _ rfl _ _ 46 rfl w.heap.size 77 i0 (.agg #[.int .i32 0, .int .i32 0]) 2 8 Try.underlying46 hi hz0 hz1 hz2 rfl (by decide) (.slice (some ⟨w.heap.size, 0, none⟩) 0 0) 0 [] rfl HM.out ⟨g, 0, none⟩ 0 0 [] rfl rfl (fun j u h => by simp at h) (fun u h => by cases h) (by simp only [maxLen]; omega) (by omega) (by simp) ?_; intro v' w6 hown' hgrow _ hat; have hfx := Lib.hid hown'; have hgx := Lib.hid hgrow; clear hown' hgrow hat))
      go_ret2
      refine ⟨_, rfl, WR.es (B := w.heap.size) ?_, grown_new hgx.out rfl⟩
      rw [hdr.out]
      exact hfx.out
    · have HK := Lib.hid (show ∀ j u, ((tr.drop k).flatMap ecl)[j]? = some u → (w.alloc (.cells #[] 77)).cell? ((⟨g, k * 2, none⟩ : Addr).add j) = some u from fun j u hj => by
        rw [eflat_drop, List.getElem?_drop] at hj
        have := World.ownsRow.cells HO.out rfl (k * 2 + j) u hj
        rw [Addr.add_mid] at this ⊢
        rw [Nat.zero_add] at this
        exact this)
      have HL := Lib.hid (show ((tr.drop k).flatMap ecl).length = (tr.length - k) * 2 by rw [eflat_len, List.length_drop])
      go_enter Try.func73, Try.ntmps73
      go_wp2_with (first
        | (go_at_call 72; refine HV.out.mono ?_; rintro e w' ⟨rfl, rfl⟩)
        | (at_builtin; refine wpList_append_own_at _ rfl _ _ 46 rfl w.heap.size 77 i0 (.agg #[.int .i32 0, .int .i32 0]) 2 8 Try.underlying46 hi hz0 hz1 hz2 rfl (by decide) (.slice (some ⟨w.heap.size, 0, none⟩) 0 0) 0 [] rfl HM.out ⟨g, k * 2, none⟩ (tr.length - k) (cap - k) ((tr.drop k).flatMap ecl) rfl HL.out HK.out (flat_one ecl_one _) (by simp only [maxLen]; omega) (by omega) (by simp) ?_; intro v' w6 hown' hgrow _ hat; have hfx := Lib.hid hown'; have hgx := Lib.hid hgrow; clear hown' hgrow hat))
      go_ret2
      refine ⟨_, rfl, WR.es (B := w.heap.size) ?_, grown_new hgx.out rfl⟩
      have := hfx.out
      unfold WR
      rw [List.length_drop]
      simpa using this
theorem revents_any (h : RbX w F p cb rv ev cs rs tr) : Calls Try.prog 50 #[.pointer (some ⟨p, 0, none⟩)] w (EvPost w tr) := by
  have HS := Lib.hid (show Calls Try.prog 73 #[.pointer (some ⟨p, 0, none⟩), .int .i64 0] w (SiPost w tr) from rsince_good h 0 (Nat.zero_le _))
  clear h
  go_enter Try.func50, Try.ntmps50
  go_wp2_with (go_at_call 73; refine HS.out.mono ?_; rintro e w' ⟨v, rfl, he, hb⟩; have HE := Lib.hid he; clear he)
  go_ret
  exact ⟨_, rfl, HE.out, hb⟩
end
end Go.Proofs.Ytalnhbjpfnodiaa
