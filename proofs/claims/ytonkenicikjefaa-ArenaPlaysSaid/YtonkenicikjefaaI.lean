/- Regions read: fresh, is, end, index. -/
import Derived.Test.YtonkenicikjefaaH
namespace Go.Proofs.Ytonkenicikjefaa
open Go.RowKit
def nameEq (r : Rg) (s : ByteArray) : Bool := r.name.toList == s.toList
theorem is_any (s : ByteArray) (r : Rg) (w : World) : Calls Try.prog 58 #[.string s, .agg #[.string r.name, .int .i64 (r.base : Int), .int .i64 (r.size : Int)]] w fun e w' => e = .returned (.bool (nameEq r s)) ∧ Below w.heap.size w w' := by
  go_enter Try.func58, Try.ntmps58
  go_wp2
  go_ret
  exact ⟨rfl, (Below.refl _ w).alloc (Nat.le_refl _) _⟩
theorem two_new0 (w : World) (c d : Obj) : ((w.alloc c).alloc d).heap[w.heap.size]? = some c := (fresh_lt (by simp) _).trans (heap_alloc_new _ _)
theorem two_new1 (w : World) (c d : Obj) : ((w.alloc c).alloc d).heap[w.heap.size + 1]? = some d := by
  have := heap_alloc_new (w.alloc c) d
  simpa using this
theorem fresh_any (r : Rg) (w : World) (hs : r.name.size ≤ 100000) : Calls Try.prog 45 #[.agg #[.string r.name, .int .i64 (r.base : Int), .int .i64 (r.size : Int)]] w fun e w' => e = .returned (.agg #[.string r.name, .int .i64 (r.base : Int), .int .i64 (r.size : Int)]) ∧ Below w.heap.size w w' := by
  have CL := Lib.hid (fun W => clone_any r.name W (by omega))
  go_enter Try.func45, Try.ntmps45
  go_wp2_with (go_at_call 55; refine (CL.out _).mono ?_; rintro e w2 ⟨rfl, hb2⟩; have x0 := (hb2.block w.heap.size (by simp only [World.size_alloc]; omega)).trans (two_new0 w _ _); have x1 := (hb2.block (w.heap.size + 1) (by simp only [World.size_alloc]; omega)).trans (two_new1 w _ _); have y0 := (cell_blk x0 0).trans rfl; have y1 := (cell_blk x0 1).trans rfl; have y2 := (cell_blk x0 2).trans rfl; have z0 := (cell_blk x1 0).trans rfl; have z1 := (cell_blk x1 1).trans rfl; have z2 := (cell_blk x1 2).trans rfl; have u0 := frozen_blk x0 0; have v0 := frozen_blk x1 0; have v1 := frozen_blk x1 1; have v2 := frozen_blk x1 2; have hbw := (((Below.refl w.heap.size w).alloc (Nat.le_refl _) _).alloc (by simp) _).trans (hb2.mono (by simp only [World.size_alloc]; omega)); have X1 := Lib.hid x1; clear x0 x1 hb2)
  refine bodyPost_ret (v := .agg #[.string r.name, .int .i64 (r.base : Int), .int .i64 (r.size : Int)]) ?_ rfl ?_
  · simp [results, Try.results45, go_sem, z0, z1, z2]
  · exact ⟨rfl, (((hbw.setCell (p := ⟨w.heap.size, 0, none⟩) (Nat.le_refl _) _).setCell (p := ⟨w.heap.size + 1, 0, none⟩) (Nat.le_succ _) _).setCell (p := ⟨w.heap.size + 1, 1, none⟩) (Nat.le_succ _) _).setCell (p := ⟨w.heap.size + 1, 2, none⟩) (Nat.le_succ _) _⟩
theorem rflat_get (rs : List Rg) : ∀ i r, rs[i]? = some r → (rs.flatMap rcells)[i * 3]? = some (.string r.name) ∧ (rs.flatMap rcells)[i * 3 + 1]? = some (.int .i64 (r.base : Int)) ∧ (rs.flatMap rcells)[i * 3 + 2]? = some (.int .i64 (r.size : Int)) := by
  induction rs with
  | nil => intro i r h; simp at h
  | cons q rs ih =>
    intro i r h
    cases i with
    | zero => simp at h; subst h; exact ⟨rfl, rfl, rfl⟩
    | succ i =>
      have := ih i r (by simpa using h)
      rw [List.flatMap_cons, show (i + 1) * 3 = (rcells q).length + i * 3 by simp [rcells]; omega, Nat.add_assoc, Nat.add_assoc, List.getElem?_append_right (by omega), List.getElem?_append_right (by omega), List.getElem?_append_right (by omega), Nat.add_sub_cancel_left, Nat.add_sub_cancel_left, Nat.add_sub_cancel_left]
      exact this
theorem own_reg {w : World} {q : Option Addr} {c : Nat} {rs : List Rg} (h : w.ownsRow 0 55 3 (.slice q rs.length c) rs.length (rs.flatMap rcells)) {i : Nat} {r : Rg} (hr : rs[i]? = some r) :
    ∃ g, q = some ⟨g, 0, none⟩ ∧ w.cell? ⟨g, i * 3, none⟩ = some (.string r.name) ∧ w.cell? ⟨g, i * 3 + 1, none⟩ = some (.int .i64 (r.base : Int)) ∧ w.cell? ⟨g, i * 3 + 2, none⟩ = some (.int .i64 (r.size : Int)) ∧ rs.length ≤ c := by
  have hj := (List.getElem?_eq_some_iff.1 hr).1
  obtain ⟨f0, f1, f2⟩ := rflat_get rs i r hr
  rcases h.2 with ⟨h1, h2⟩ | ⟨g, cap, cur, h1, _, _, h3, _⟩
  · omega
  · cases h1
    exact ⟨g, rfl, (World.ownsRow.cellAt h _ (by omega)).trans f0, (World.ownsRow.cellAt h _ (by omega)).trans f1, (World.ownsRow.cellAt h _ (by omega)).trans f2, h3⟩
theorem end_any {w : World} {F : Nat → Prop} {p cb : Nat} {pv rv : Value} {pg cs : List Nat} {rs : List Rg} {tr : List (Nat × Nat)} (h : ArX w F p cb pv rv pg cs rs tr) :
    Calls Try.prog 48 #[.pointer (some ⟨p, 0, none⟩)] w fun e w' => e = .returned (.int .i64 (endR rs : Int)) ∧ Below w.heap.size w w' := by
  obtain ⟨q, c, rfl⟩ := own_shape h.regs
  have c4 := h.c4
  by_cases h0 : rs.length = 0
  · have t0 : ((rs.length : Int) == 0) = true := by rw [h0]; rfl
    have e : endR rs = 0 := by rw [List.eq_nil_of_length_eq_zero h0]; rfl
    have E := Lib.hid e
    clear e h0
    go_enter Try.func48, Try.ntmps48
    go_wp2
    go_ret
    exact ⟨by rw [E.out]; rfl, Below.refl _ w⟩
  · have t0 : ((rs.length : Int) == 0) = false := by rw [beq_eq_false_iff_ne]; omega
    obtain ⟨m, hm⟩ : ∃ m, rs.length = m + 1 := ⟨rs.length - 1, by omega⟩
    obtain ⟨r, hr⟩ : ∃ r, rs[m]? = some r := ⟨_, List.getElem?_eq_getElem (by omega)⟩
    have he : endR rs = r.base + r.size := by
      unfold endR
      rw [List.getLast?_eq_getElem?, hm, Nat.add_sub_cancel, hr]
    obtain ⟨g, rfl, y0, y1, y2, hmc⟩ := own_reg h.regs hr
    have hw := h.wrs r (List.mem_of_getElem? hr)
    have hn3 := h.ncs
    have hrs := h.nrs
    have HE := Lib.hid he
    rw [hm] at c4 t0 hmc hrs
    have hpl := h.lt _ h.fp
    have hgl := h.lt _ (h.frv g rfl)
    have a4 : ∀ o, (w.alloc o).cell? ⟨p, 4, none⟩ = _ := fun o => (World.cell?_of_block (fresh_lt hpl o)).trans c4
    have a0 : ∀ o, (w.alloc o).cell? ⟨g, m * 3, none⟩ = _ := fun o => (World.cell?_of_block (fresh_lt hgl o)).trans y0
    have a1 : ∀ o, (w.alloc o).cell? ⟨g, m * 3 + 1, none⟩ = _ := fun o => (World.cell?_of_block (fresh_lt hgl o)).trans y1
    have a2 : ∀ o, (w.alloc o).cell? ⟨g, m * 3 + 2, none⟩ = _ := fun o => (World.cell?_of_block (fresh_lt hgl o)).trans y2
    have e0 : IntKind.i64.wrap (m : Int) = (m : Int) := by rw [IntKind.wrap_i64]; omega
    clear h h0 hm hr he
    have e1 : IntKind.i64.wrap ((m : Int) + 1 - 1) = (m : Int) := by rw [IntKind.wrap_i64]; omega
    have e2 : (m : Int) + 1 - 1 = (m : Int) := by omega
    have e3 : (m : Int) < (m : Int) + 1 := by omega
    go_enter Try.func48, Try.ntmps48
    go_wp2
    go_region
    all_goals
      go_wp2
      go_ret
      exact ⟨ret_int (by rw [HE.out]; omega), ((Below.refl _ w).alloc (Nat.le_refl _) _).drew⟩
/-- The index of the region with a name, or -1. -/
def idxI (rs : List Rg) (s : ByteArray) : Int := match rs.findIdx? (fun r => nameEq r s) with | some i => (i : Int) | none => -1
theorem idxI_some {rs : List Rg} {s : ByteArray} {k : Nat} {r : Rg} (hr : rs[k]? = some r) (h1 : nameEq r s = true) (h2 : ∀ (j : Nat) (q : Rg), j < k → rs[j]? = some q → nameEq q s = false) : idxI rs s = (k : Int) := by
  have hk := (List.getElem?_eq_some_iff.1 hr)
  have : rs.findIdx? (fun r => nameEq r s) = some k := by
    rw [List.findIdx?_eq_some_iff_getElem]
    refine ⟨hk.choose, by rw [hk.choose_spec]; exact h1, fun j hj => ?_⟩
    rw [h2 j _ hj (List.getElem?_eq_getElem (by have := hk.choose; omega))]
    decide
  unfold idxI
  rw [this]
theorem idxI_none {rs : List Rg} {s : ByteArray} (h2 : ∀ (j : Nat) (q : Rg), rs[j]? = some q → nameEq q s = false) : idxI rs s = -1 := by
  have : rs.findIdx? (fun r => nameEq r s) = none := by
    rw [List.findIdx?_eq_none_iff]
    intro x hx
    obtain ⟨j, hj⟩ := List.getElem?_of_mem hx
    exact h2 j x hj
  unfold idxI
  rw [this]
theorem idxI_cases (rs : List Rg) (s : ByteArray) : (idxI rs s = -1 ∧ ∀ r ∈ rs, nameEq r s = false) ∨ (∃ (k : Nat) (r : Rg), idxI rs s = (k : Int) ∧ rs[k]? = some r ∧ nameEq r s = true ∧ ∀ (j : Nat) (q : Rg), j < k → rs[j]? = some q → nameEq q s = false) := by
  cases h : rs.findIdx? (fun r => nameEq r s) with
  | none => exact .inl ⟨by unfold idxI; rw [h], List.findIdx?_eq_none_iff.1 h⟩
  | some k =>
    obtain ⟨h1, h2, h3⟩ := List.findIdx?_eq_some_iff_getElem.1 h
    refine .inr ⟨k, rs[k], by unfold idxI; rw [h], List.getElem?_eq_getElem h1, h2, fun j q hj hq => ?_⟩
    have := h3 j hj
    rw [(List.getElem?_eq_some_iff.1 hq).choose_spec] at this
    simpa using this
theorem idx_any {w : World} {q : Option Addr} {c : Nat} {rs : List Rg} (h : w.ownsRow 0 55 3 (.slice q rs.length c) rs.length (rs.flatMap rcells)) (hn : rs.length ≤ 64) (s : ByteArray) :
    Calls Try.prog 57 #[.slice q rs.length c, .func (.func 58) #[.string s] #[]] w fun e w' => e = .returned (.int .i64 (idxI rs s)) ∧ Below w.heap.size w w' := by
  have hlt := World.ownsRow.lt h
  have H := Lib.hid h
  have HN := Lib.hid (show ∀ n, n = rs.length → True from fun _ _ => trivial)
  obtain ⟨n, hnn⟩ : ∃ n, n = rs.length := ⟨_, rfl⟩
  rw [← hnn] at hn ⊢
  have HM := Lib.hid hnn
  clear h hnn HN
  have E1 := Lib.hid (fun k r => @idxI_some rs s k r)
  have E2 := Lib.hid (fun h => @idxI_none rs s h)
  go_enter Try.func57, Try.ntmps57
  go_wp2
  go_loopw [5, 8] (fun _ i wr => ∃ k : Nat, k ≤ n ∧ i = .int .i64 (k : Int) ∧ Hid (∀ (j : Nat) (x : Rg), j < k → rs[j]? = some x → nameEq x s = false) ∧ Below w.heap.size w wr) (fun _ i _ => n - (intOf i).toNat)
  case atStart => exact ⟨0, Nat.zero_le _, rfl, Lib.hid (fun j x h => absurd h (Nat.not_lt_zero _)), Below.refl _ w⟩
  case round =>
    obtain ⟨k, hk, rfl, hd, hb⟩ := hrel
    by_cases hlt2 : k < n
    · have hltb : decide ((k : Int) < (n : Int)) = true := decide_eq_true (by omega)
      obtain ⟨r, hr⟩ : ∃ r, rs[k]? = some r := ⟨_, List.getElem?_eq_getElem (by have := HM.out; omega)⟩
      obtain ⟨g, hg, y0, y1, y2, hmc⟩ := own_reg H.out hr
      subst hg
      have hgl := (hlt g rfl).2
      have x0 := (hb.cell (p := ⟨g, k * 3, none⟩) hgl).trans y0
      have x1 := (hb.cell (p := ⟨g, k * 3 + 1, none⟩) hgl).trans y1
      have x2 := (hb.cell (p := ⟨g, k * 3 + 2, none⟩) hgl).trans y2
      have hkn : (k : Int) < (n : Int) := by omega
      have IS := Lib.hid (is_any s r wr)
      have HR := Lib.hid hr
      clear hr y0 y1 y2 hlt
      by_cases hq : nameEq r s = true
      · rw [hq] at IS
        have HQ := Lib.hid hq
        clear hq
        go_wp2_with (go_at_call 58; refine (IS.out).mono ?_; rintro e w2 ⟨rfl, hb2⟩)
        go_ret
        exact ⟨ret_int (E1.out _ _ HR.out HQ.out hd.out).symm, hb.trans (hb2.mono hb.size)⟩
      · have hq' : nameEq r s = false := by simpa using hq
        rw [hq'] at IS
        have HQ := Lib.hid hq'
        clear hq hq'
        go_wp2_with (go_at_call 58; refine (IS.out).mono ?_; rintro e w2 ⟨rfl, hb2⟩)
        go_roundw
        case rel =>
          refine ⟨k + 1, by omega, by go_num, Lib.hid (fun j x hj hx => ?_), hb.trans (hb2.mono hb.size)⟩
          by_cases e : j = k
          · subst e
            rw [HR.out] at hx; cases hx; exact HQ.out
          · exact hd.out j x (by omega) hx
        case measure => simp [intOf]; omega
    · obtain rfl : k = n := by omega
      have hltb : decide ((k : Int) < (k : Int)) = false := decide_eq_false (by omega)
      have hz := E2.out (fun j x hx => hd.out j x (by have := (List.getElem?_eq_some_iff.1 hx).1; have := HM.out; omega) hx)
      have HZ := Lib.hid hz
      clear hz
      go_wp2
      go_ret
      exact ⟨ret_int HZ.out.symm, hb⟩
theorem index_any {w : World} {F : Nat → Prop} {p cb : Nat} {pv rv : Value} {pg cs : List Nat} {rs : List Rg} {tr : List (Nat × Nat)} (h : ArX w F p cb pv rv pg cs rs tr) (s : ByteArray) :
    Calls Try.prog 49 #[.pointer (some ⟨p, 0, none⟩), .string s] w fun e w' => e = .returned (.int .i64 (idxI rs s)) ∧ Below w.heap.size w w' := by
  obtain ⟨q, c, rfl⟩ := own_shape h.regs
  have c4 := h.c4
  have HI := Lib.hid (idx_any h.regs h.nrs s)
  clear h
  go_enter Try.func49, Try.ntmps49
  go_wp2_with (go_at_call 57; refine (HI.out).mono ?_; rintro e w2 ⟨rfl, hb2⟩)
  go_ret
  exact ⟨rfl, hb2⟩
end Go.Proofs.Ytonkenicikjefaa
