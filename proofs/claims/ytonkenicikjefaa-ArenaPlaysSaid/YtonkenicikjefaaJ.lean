/- refused. -/
import Derived.Test.YtonkenicikjefaaI
import Derived.Deep.RegionLaw
import Derived.Deep.RegionWith
namespace Go.Proofs.Ytonkenicikjefaa
open Go.RowKit
/-- Why there may be no region of this name and size. -/
def regE (n : Nat) (rs : List Rg) (s : ByteArray) (k : Int) : Int :=
  if nameL s.data.toList = false then 6 else if k < 1 then 7 else if 0 ≤ idxI rs s then 8 else if 64 ≤ rs.length then 3 else if (n : Int) - (endR rs : Int) < k then 5 else 0
theorem idxI_bounds (rs : List Rg) (s : ByteArray) : -1 ≤ idxI rs s ∧ idxI rs s < (rs.length : Int) := by
  rcases idxI_cases rs s with ⟨e, _⟩ | ⟨k, r, e, hr, _⟩
  · rw [e]; omega
  · have := (List.getElem?_eq_some_iff.1 hr).1
    rw [e]; omega
theorem endR_le {n : Nat} {rs : List Rg} (h : ∀ r ∈ rs, r.base + r.size ≤ n ∧ r.name.size ≤ 16 ∧ 1 ≤ r.size) : endR rs ≤ n := by
  unfold endR
  cases e : rs.getLast? with
  | none => exact Nat.zero_le _
  | some r => exact (h r (List.mem_of_getLast? e)).1
section
variable {w : World} {F : Nat → Prop} {p cb : Nat} {pv rv : Value} {pg cs : List Nat} {rs : List Rg} {tr : List (Nat × Nat)}
set_option maxHeartbeats 1600000 in
set_option maxRecDepth 100000 in
theorem refused_any (h : ArX w F p cb pv rv pg cs rs tr) (s : ByteArray) (k : Int) (hs : s.size ≤ 100000) :
    Calls Try.prog 47 #[.pointer (some ⟨p, 0, none⟩), .string s, .int .i64 k] w fun e w' => e = .returned (.int .i64 (regE cs.length rs s k)) ∧ Below w.heap.size w w' := by
  have NM := Lib.hid (fun W => name_any s W (by unfold maxLen; omega))
  have IX := Lib.hid (index_any h s)
  have EN := Lib.hid (fun (W : World) (e : ArX W F p cb pv rv pg cs rs tr) => end_any e)
  have hpl := h.lt _ h.fp
  have c3 := h.c3
  have hi := idxI_bounds rs s
  have hn3 := h.ncs
  have he := endR_le h.wrs
  have hrl := h.nrs
  have H := Lib.hid h
  obtain ⟨q, c, rfl⟩ := own_shape h.regs
  have c4 := h.c4
  clear h
  by_cases h1 : nameL s.data.toList = false
  · have E := Lib.hid (show regE cs.length rs s k = 6 by unfold regE; rw [if_pos h1])
    rw [h1] at NM
    clear h1
    go_enter Try.func47, Try.ntmps47
    go_wp2_with (first | (go_at_call 56; refine (NM.out _).mono ?_; rintro e w' ⟨rfl, rfl⟩) | (go_at_call 49; refine (IX.out).mono ?_; rintro e w2 ⟨rfl, hb2⟩; have c4' := (hb2.cell (p := ⟨p, 4, none⟩) hpl).trans c4; have c3' := (hb2.cell (p := ⟨p, 3, none⟩) hpl).trans c3; clear c3 c4))
    go_ret
    exact ⟨ret_int E.out.symm, Below.refl _ _⟩
  have h1' : nameL s.data.toList = true := by simpa using h1
  rw [h1'] at NM
  by_cases h2 : k < 1
  · have E := Lib.hid (show regE cs.length rs s k = 7 by unfold regE; rw [if_neg h1, if_pos h2])
    have t2 : decide (k < 1) = true := decide_eq_true h2
    clear h1 h1' h2
    go_enter Try.func47, Try.ntmps47
    go_wp2_with (first | (go_at_call 56; refine (NM.out _).mono ?_; rintro e w' ⟨rfl, rfl⟩) | (go_at_call 49; refine (IX.out).mono ?_; rintro e w2 ⟨rfl, hb2⟩; have c4' := (hb2.cell (p := ⟨p, 4, none⟩) hpl).trans c4; have c3' := (hb2.cell (p := ⟨p, 3, none⟩) hpl).trans c3; clear c3 c4))
    go_ret
    exact ⟨ret_int E.out.symm, Below.refl _ _⟩
  have t2 : decide (k < 1) = false := decide_eq_false h2
  by_cases h3 : 0 ≤ idxI rs s
  · have E := Lib.hid (show regE cs.length rs s k = 8 by unfold regE; rw [if_neg h1, if_neg h2, if_pos h3])
    have t3 : decide (0 ≤ idxI rs s) = true := decide_eq_true h3
    clear h1 h1' h2
    go_enter Try.func47, Try.ntmps47
    go_wp2_with (first | (go_at_call 56; refine (NM.out _).mono ?_; rintro e w' ⟨rfl, rfl⟩) | (go_at_call 49; refine (IX.out).mono ?_; rintro e w2 ⟨rfl, hb2⟩; have c4' := (hb2.cell (p := ⟨p, 4, none⟩) hpl).trans c4; have c3' := (hb2.cell (p := ⟨p, 3, none⟩) hpl).trans c3; clear c3 c4))
    go_ret
    exact ⟨ret_int E.out.symm, hb2⟩
  have t3 : decide (0 ≤ idxI rs s) = false := decide_eq_false h3
  by_cases h4 : 64 ≤ rs.length
  · have E := Lib.hid (show regE cs.length rs s k = 3 by unfold regE; rw [if_neg h1, if_neg h2, if_neg h3, if_pos h4])
    have t4 : decide ((64 : Int) ≤ (rs.length : Int)) = true := decide_eq_true (by omega)
    clear h1 h1' h2 h3 h4
    go_enter Try.func47, Try.ntmps47
    go_wp2_with (first | (go_at_call 56; refine (NM.out _).mono ?_; rintro e w' ⟨rfl, rfl⟩) | (go_at_call 49; refine (IX.out).mono ?_; rintro e w2 ⟨rfl, hb2⟩; have c4' := (hb2.cell (p := ⟨p, 4, none⟩) hpl).trans c4; have c3' := (hb2.cell (p := ⟨p, 3, none⟩) hpl).trans c3; clear c3 c4))
    go_ret
    exact ⟨ret_int E.out.symm, hb2⟩
  have t4 : decide ((64 : Int) ≤ (rs.length : Int)) = false := decide_eq_false (by omega)
  have e0 : IntKind.i64.wrap ((cs.length : Int) - (endR rs : Int)) = (cs.length : Int) - (endR rs : Int) := by rw [IntKind.wrap_i64]; omega
  by_cases h5 : (cs.length : Int) - (endR rs : Int) < k
  · have E := Lib.hid (show regE cs.length rs s k = 5 by unfold regE; rw [if_neg h1, if_neg h2, if_neg h3, if_neg h4, if_pos h5])
    have t5 : decide ((cs.length : Int) - (endR rs : Int) < k) = true := decide_eq_true h5
    clear h1 h1' h2 h3 h4 h5
    go_enter Try.func47, Try.ntmps47
    go_wp2_with (first | (go_at_call 56; refine (NM.out _).mono ?_; rintro e w' ⟨rfl, rfl⟩) | (go_at_call 49; refine (IX.out).mono ?_; rintro e w2 ⟨rfl, hb2⟩; have c4' := (hb2.cell (p := ⟨p, 4, none⟩) hpl).trans c4; have c3' := (hb2.cell (p := ⟨p, 3, none⟩) hpl).trans c3; clear c3 c4))
    have H2 := Lib.hid (H.out.below hb2)
    have hpl2 : p < w2.heap.size := Nat.lt_of_lt_of_le hpl hb2.size
    clear c4' t2 t3 t4 NM IX
    go_region_with (first | (go_at_call 48; refine (EN.out _ (H2.out.of_heap (by rfl))).mono ?_; rintro e w4 ⟨rfl, hb4⟩; have c5 : w4.cell? ⟨p, 3, none⟩ = _ := (hb4.cell (p := ⟨p, 3, none⟩) hpl2).trans c3'))
    all_goals
      go_wp2
      go_ret
      exact ⟨ret_int E.out.symm, hb2.drew.trans (hb4.mono hb2.size)⟩
  have E := Lib.hid (show regE cs.length rs s k = 0 by unfold regE; rw [if_neg h1, if_neg h2, if_neg h3, if_neg h4, if_neg h5])
  have t5 : decide ((cs.length : Int) - (endR rs : Int) < k) = false := decide_eq_false h5
  clear h1 h1' h2 h3 h4 h5
  go_enter Try.func47, Try.ntmps47
  go_wp2_with (first | (go_at_call 56; refine (NM.out _).mono ?_; rintro e w' ⟨rfl, rfl⟩) | (go_at_call 49; refine (IX.out).mono ?_; rintro e w2 ⟨rfl, hb2⟩; have c4' := (hb2.cell (p := ⟨p, 4, none⟩) hpl).trans c4; have c3' := (hb2.cell (p := ⟨p, 3, none⟩) hpl).trans c3; clear c3 c4))
  have H2 := Lib.hid (H.out.below hb2)
  have hpl2 : p < w2.heap.size := Nat.lt_of_lt_of_le hpl hb2.size
  clear c4' t2 t3 t4 NM IX
  go_region_with (first | (go_at_call 48; refine (EN.out _ (H2.out.of_heap (by rfl))).mono ?_; rintro e w4 ⟨rfl, hb4⟩; have c5 : w4.cell? ⟨p, 3, none⟩ = _ := (hb4.cell (p := ⟨p, 3, none⟩) hpl2).trans c3'))
  all_goals
    go_wp2
    go_ret
    exact ⟨ret_int E.out.symm, hb2.drew.trans (hb4.mono hb2.size)⟩
end
end Go.Proofs.Ytonkenicikjefaa
