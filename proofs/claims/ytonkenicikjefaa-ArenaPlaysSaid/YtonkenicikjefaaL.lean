/- Find, Regions. -/
import Derived.Test.YtonkenicikjefaaK
namespace Go.Proofs.Ytonkenicikjefaa
open Go.RowKit
def rgV (r : Rg) : Value := .agg #[.string r.name, .int .i64 (r.base : Int), .int .i64 (r.size : Int)]
def rg0 : Rg := ⟨⟨#[]⟩, 0, 0⟩
section
variable {w : World} {F : Nat → Prop} {p cb : Nat} {pv rv : Value} {pg cs : List Nat} {rs : List Rg} {tr : List (Nat × Nat)}
abbrev zeroR : Obj := .cells #[.string ⟨#[]⟩, .int .i64 0, .int .i64 0] 55
def FiPost (w : World) (r : Rg) (err : Int) (e : Ending) (w' : World) : Prop := e = .returned (.tuple #[rgV r, .int .i64 err]) ∧ Below w.heap.size w w'
theorem find_none (h : ArX w F p cb pv rv pg cs rs tr) (s : ByteArray) (hi : idxI rs s = -1) : Calls Try.prog 27 #[.pointer (some ⟨p, 0, none⟩), .string s] w (FiPost w rg0 4) := by
  have hb1 : Below w.heap.size w (w.alloc zeroR) := (Below.refl _ w).alloc (Nat.le_refl _) _
  have h1 := h.below hb1
  have HV := Lib.hid (valid_any h1)
  have IX := Lib.hid (index_any h1 s)
  rw [hi] at IX
  have HB1 := Lib.hid hb1
  clear h h1 hi hb1
  go_enter Try.func27, Try.ntmps27
  go_wp2_with (first | (go_at_call 42; refine HV.out.mono ?_; rintro e w' ⟨rfl, rfl⟩) | (go_at_call 49; refine IX.out.mono ?_; rintro e w2 ⟨rfl, hb2⟩; have x0 := (hb2.block w.heap.size (by simp)).trans (heap_alloc_new w zeroR); have z0 := (cell_blk x0 0).trans rfl; have z1 := (cell_blk x0 1).trans rfl; have z2 := (cell_blk x0 2).trans rfl; have v0 := frozen_blk x0 0; have v1 := frozen_blk x0 1; have v2 := frozen_blk x0 2; clear x0))
  refine bodyPost_ret (v := .tuple #[rgV rg0, .int .i64 4]) ?_ rfl ?_
  · simp [results, Try.results27, go_sem, z0, z1, z2, rgV, rg0]
  · exact ⟨rfl, (((HB1.out.trans (hb2.mono (by simp))).setCell (p := ⟨w.heap.size, 0, none⟩) (Nat.le_refl _) _).setCell (p := ⟨w.heap.size, 1, none⟩) (Nat.le_refl _) _).setCell (p := ⟨w.heap.size, 2, none⟩) (Nat.le_refl _) _⟩
theorem find_some (h : ArX w F p cb pv rv pg cs rs tr) (s : ByteArray) (k : Nat) (r : Rg) (hi : idxI rs s = (k : Int)) (hr : rs[k]? = some r) : Calls Try.prog 27 #[.pointer (some ⟨p, 0, none⟩), .string s] w (FiPost w r 0) := by
  have hb1 : Below w.heap.size w (w.alloc zeroR) := (Below.refl _ w).alloc (Nat.le_refl _) _
  have h1 := h.below hb1
  have HV := Lib.hid (valid_any h1)
  have IX := Lib.hid (index_any h1 s)
  rw [hi] at IX
  have HB1 := Lib.hid hb1
  have hk := (List.getElem?_eq_some_iff.1 hr).1
  have hrl := h.nrs
  have FR := Lib.hid (fun (W : World) => fresh_any r W (by have := (h.wrs r (List.mem_of_getElem? hr)).2.1; omega))
  have H1 := Lib.hid h1
  have HR := Lib.hid hr
  obtain ⟨q, c, hq⟩ := own_shape h.regs
  subst hq
  clear h h1 hi hb1 hr
  have t1 : decide ((k : Int) < 0) = false := decide_eq_false (by omega)
  have t2 : (k : Int) < (rs.length : Int) := by omega
  go_enter Try.func27, Try.ntmps27
  go_wp2_with (first | (go_at_call 42; refine HV.out.mono ?_; rintro e w' ⟨rfl, rfl⟩) | (go_at_call 49; refine IX.out.mono ?_; rintro e w2 ⟨rfl, hb2⟩; have x0 := (hb2.block w.heap.size (by simp)).trans (heap_alloc_new w zeroR); have X0 := Lib.hid x0; have H2 := Lib.hid (H1.out.below hb2); have c4 := H2.out.c4; obtain ⟨g, hg, y0, y1, y2, hmc⟩ := own_reg H2.out.regs HR.out; subst hg; have hsz := hb2.size; have B2 := Lib.hid (HB1.out.trans (hb2.mono (by simp))); clear x0) | (go_at_call 45; refine (FR.out _).mono ?_; rintro e w4 ⟨rfl, hb4⟩; have x0 := (hb4.block w.heap.size (by simp at hsz; omega)).trans X0.out; have z0 := (cell_blk x0 0).trans rfl; have z1 := (cell_blk x0 1).trans rfl; have z2 := (cell_blk x0 2).trans rfl; have v0 := frozen_blk x0 0; have v1 := frozen_blk x0 1; have v2 := frozen_blk x0 2; clear x0))
  refine bodyPost_ret (v := .tuple #[rgV r, .int .i64 0]) ?_ rfl ?_
  · simp [results, Try.results27, go_sem, z0, z1, z2, rgV]
  · exact ⟨rfl, (((B2.out.trans (hb4.mono B2.out.size)).setCell (p := ⟨w.heap.size, 0, none⟩) (Nat.le_refl _) _).setCell (p := ⟨w.heap.size, 1, none⟩) (Nat.le_refl _) _).setCell (p := ⟨w.heap.size, 2, none⟩) (Nat.le_refl _) _⟩
/-- Regions in memory. -/
def RS (W : World) (v : Value) (rs : List Rg) : Prop :=
  ∃ q c, v = .slice q rs.length c ∧ ∀ i r, rs[i]? = some r → ∃ b o, q = some ⟨b, o, none⟩ ∧ W.cell? ⟨b, o + i * 3, none⟩ = some (.string r.name) ∧ W.cell? ⟨b, o + i * 3 + 1, none⟩ = some (.int .i64 (r.base : Int)) ∧ W.cell? ⟨b, o + i * 3 + 2, none⟩ = some (.int .i64 (r.size : Int)) ∧ b < W.heap.size
theorem RS.below {w w' : World} {v : Value} {rs : List Rg} (h : RS w v rs) (hb : Below w.heap.size w w') : RS w' v rs := by
  obtain ⟨q, c, rfl, hx⟩ := h
  refine ⟨q, c, rfl, fun i r hi => ?_⟩
  obtain ⟨b, o, rfl, h1, h2, h3, h4⟩ := hx i r hi
  exact ⟨b, o, rfl, (hb.cell (p := ⟨b, o + i * 3, none⟩) h4).trans h1, (hb.cell (p := ⟨b, o + i * 3 + 1, none⟩) h4).trans h2, (hb.cell (p := ⟨b, o + i * 3 + 2, none⟩) h4).trans h3, Nat.lt_of_lt_of_le h4 hb.size⟩
theorem RS.own {w : World} {B : Nat} {v : Value} {rs : List Rg} (h : w.ownsRow B 55 3 v rs.length (rs.flatMap rcells)) : RS w v rs := by
  obtain ⟨q, c, rfl⟩ := own_shape h
  refine ⟨q, c, rfl, fun i r hi => ?_⟩
  have hj := (List.getElem?_eq_some_iff.1 hi).1
  obtain ⟨f0, f1, f2⟩ := rflat_get rs i r hi
  have hlt := World.ownsRow.lt h
  rcases h.2 with ⟨h1, h2⟩ | ⟨g, cap, cur, h1, _, _, h3, _⟩
  · omega
  · cases h1
    refine ⟨g, 0, rfl, ?_⟩
    rw [Nat.zero_add]
    exact ⟨(World.ownsRow.cellAt h _ (by omega)).trans f0, (World.ownsRow.cellAt h _ (by omega)).trans f1, (World.ownsRow.cellAt h _ (by omega)).trans f2, (hlt g rfl).2⟩
def RsPost (w : World) (rs : List Rg) (e : Ending) (w' : World) : Prop := ∃ v, e = .returned v ∧ RS w' v rs ∧ Below w.heap.size w w'
theorem own_below {w w' : World} {B : Nat} {e : TypeId} {s n : Nat} {v : Value} {xs : List Value} (h : w.ownsRow B e s v n xs) (hb : Below w.heap.size w w') : w'.ownsRow B e s v n xs :=
  own_of_block h fun g hg => hb.block g ((World.ownsRow.lt h g hg).2)
set_option maxHeartbeats 1600000 in
set_option maxRecDepth 100000 in
theorem regions_any (h : ArX w F p cb pv rv pg cs rs tr) : Calls Try.prog 21 #[.pointer (some ⟨p, 0, none⟩)] w (RsPost w rs) := by
  have HV := Lib.hid (valid_any h)
  have H := Lib.hid h
  have hrl := h.nrs
  obtain ⟨q, c, hq⟩ := own_shape h.regs
  subst hq
  have c4 := h.c4
  obtain ⟨i0, hi, hz0, hz1, hz2⟩ := info_parts reg_info
  obtain ⟨n, hnn⟩ : ∃ n, n = rs.length := ⟨_, rfl⟩
  rw [← hnn] at hrl c4
  have HN := Lib.hid hnn
  clear h hnn
  go_enter Try.func21, Try.ntmps21
  go_wp2_with (go_at_call 42; refine HV.out.mono ?_; rintro e w' ⟨rfl, rfl⟩)
  go_loopw [3, 5, 14] (fun v _ i wr => ∃ k : Nat, k ≤ n ∧ i = .int .i64 (k : Int) ∧ wr.ownsRow w.heap.size 55 3 v k ((rs.take k).flatMap rcells) ∧ Below w.heap.size w wr) (fun _ _ i _ => n - (intOf i).toNat)
  case atStart => exact ⟨0, Nat.zero_le _, rfl, World.ownsRow_nil _ _ _ _, Below.refl _ w⟩
  case round =>
    obtain ⟨k, hk, rfl, hown, hb⟩ := hrel
    by_cases hlt : k < n
    · have hltb : decide ((k : Int) < (n : Int)) = true := decide_eq_true (by omega)
      have hkn : (k : Int) < (n : Int) := by omega
      obtain ⟨r, hr⟩ : ∃ r, rs[k]? = some r := ⟨_, List.getElem?_eq_getElem (by have := HN.out; omega)⟩
      have hrw := H.out.wrs r (List.mem_of_getElem? hr)
      have FR := Lib.hid (fun (W : World) => fresh_any r W (by omega))
      obtain ⟨g, hg, y0, y1, y2, hmc⟩ := own_reg (H.out.below hb).regs hr
      subst hg
      have HR := Lib.hid hr
      have HO := Lib.hid hown
      clear hr hown hrw
      obtain ⟨o0, hv⟩ : ∃ o0, o0 = (Obj.cells #[.string r.name, .int .i64 (r.base : Int), .int .i64 (r.size : Int)] 55) := ⟨_, rfl⟩
      have HV0 := Lib.hid hv
      clear hv
      go_wp2_with (first | (go_at_call 45; refine (FR.out _).mono ?_; rintro e w4 ⟨rfl, hb4⟩; have HO4 := Lib.hid (own_below (HO.out.alloc _) hb4); have B4 := Lib.hid ((hb.alloc hb.size _).trans (hb4.mono (by have := hb.size; simp only [World.size_alloc]; omega))); clear hb4) | (at_builtin; refine wpList_append_own_at _ rfl _ _ 41 rfl w.heap.size 55 i0 (.agg #[.string ⟨#[]⟩, .int .i64 0, .int .i64 0]) 3 32 Try.underlying41 hi hz0 hz1 hz2 rfl (by decide) _ k _ rfl (HO4.out.alloc _) ⟨w4.heap.size, 0, none⟩ 1 1 (rcells r) rfl rfl (reg_new w4 r) (rcells_one _) (by simp only [maxLen]; omega) (by omega) (by have := B4.out.size; simp only [World.size_alloc]; omega) ?_; intro v' w6 hown' hgrow _ hat; have hfx := Lib.hid hown'; have hgx := Lib.hid hgrow; have htx := Lib.hid hat; clear hown' hgrow hat))
      trace_state
      go_roundw
      case rel =>
        refine ⟨k + 1, by omega, by go_num, ?_, ?_⟩
        · rw [List.take_add_one, HR.out, Option.toList_some, List.flatMap_append]
          simpa using hfx.out
        · exact (B4.out.alloc B4.out.size _).grown hgx.out (by have := B4.out.size; simp only [World.size_alloc]; omega) (fun j e => (World.ownsRow.lt HO4.out j e).1)
      case measure => simp [intOf]; omega
    · obtain rfl : k = n := by omega
      have hltb : decide ((k : Int) < (k : Int)) = false := decide_eq_false (by omega)
      have HO := Lib.hid hown
      clear hown
      go_wp2
      go_ret
      refine ⟨_, rfl, RS.own (B := w.heap.size) ?_, hb⟩
      have := HO.out
      rw [HN.out, List.take_length] at this
      exact this
end
end Go.Proofs.Ytonkenicikjefaa
