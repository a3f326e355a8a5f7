/- pack, event. -/
import Derived.Test.YtalnhbjpfnodiaaC
import Derived.Laws.BitsAllLaws
import Derived.Deep.WholeRow
namespace Go.Proofs.Ytalnhbjpfnodiaa
open Go.RowKit
theorem pk_or (k a : Nat) (hk : 1 ≤ k ∧ k < 3) (ha : a < 65536) : bits .or .i64 ((k : Int) * 65536) (a : Int) = ((k * 65536 + a : Nat) : Int) := by
  have h : bits .or .i64 ((k * 65536 : Nat) : Int) (a : Int) = ((k * 65536 ||| a : Nat) : Int) := by
    have hx : k * 65536 ||| a < 2 ^ 63 := Nat.or_lt_two_pow (by omega) (by omega)
    have h1 : (BitVec.ofInt 64 ((k * 65536 : Nat) : Int)).toNat = k * 65536 := by
      rw [BitVec.ofInt_natCast, BitVec.toNat_ofNat]; exact Nat.mod_eq_of_lt (by omega)
    have h2 : (BitVec.ofInt 64 (a : Int)).toNat = a := by
      rw [BitVec.ofInt_natCast, BitVec.toNat_ofNat]; exact Nat.mod_eq_of_lt (by omega)
    show IntKind.i64.wrap ((BitVec.ofInt 64 ((k * 65536 : Nat) : Int) ||| BitVec.ofInt 64 (a : Int)).toNat : Int) = _
    rw [BitVec.toNat_or, h1, h2, IntKind.wrap_i64]
    omega
  rw [show ((k : Int) * 65536) = ((k * 65536 : Nat) : Int) by omega, h]
  congr 1
  have e : k * 65536 = 2 ^ 16 * k := by omega
  rw [e, Nat.two_pow_add_eq_or_of_lt (by omega)]
theorem pk_and (k a : Nat) (hk : k < 3) (ha : a < 65536) : bits .and .u32 ((k : Int) * 65536 + (a : Int)) 65535 = (a : Int) := by
  have h := u32_and_nat (k * 65536 + a) 65535 (by omega) (by omega)
  rw [show ((k : Int) * 65536 + (a : Int)) = ((k * 65536 + a : Nat) : Int) by omega]
  refine h.trans ?_
  congr 1
  rw [show (65535 : Nat) = 2 ^ 16 - 1 from rfl, Nat.and_two_pow_sub_one_eq_mod]
  omega
theorem pack_any (k a : Nat) (w : World) (hk : 1 ≤ k ∧ k < 3) (ha : a < 65536) : Calls Try.prog 90 #[.int .i64 (k : Int), .int .i64 (a : Int)] w fun e w' => e = .returned (.int .u32 ((k * 65536 + a : Nat) : Int)) ∧ w = w' := by
  have E := pk_or k a hk ha
  go_enter Try.func90, Try.ntmps90
  go_wp2
  go_ret
  exact ⟨ret_int (by omega), rfl⟩
theorem event_any (k a : Nat) (w : World) (hk : k < 3) (ha : a < 65536) : Calls Try.prog 79 #[.int .u32 ((k * 65536 + a : Nat) : Int)] w fun e w' => e = .returned (.agg #[.int .i32 (k : Int), .int .i32 (a : Int)]) ∧ Below w.heap.size w w' := by
  have E := pk_and k a hk ha
  have E1 : ((k : Int) * 65536 + (a : Int)) / 65536 = (k : Int) := by omega
  go_enter Try.func79, Try.ntmps79
  go_wp2
  trace_state
  refine bodyPost_ret (v := .agg #[.int .i32 (k : Int), .int .i32 (a : Int)]) ?_ rfl ?_
  · simp [results, Try.results79, go_sem]
  · exact ⟨rfl, (Below.refl _ w).alloc (Nat.le_refl _) _⟩
end Go.Proofs.Ytalnhbjpfnodiaa

/- A page of zeros. -/
namespace Go.Proofs.Ytalnhbjpfnodiaa
open Go.RowKit
noncomputable def pz : Array Value := match Try.prog.info? 115 with
  | some i => (match i.zero with | some (.agg c) => c | _ => #[])
  | none => #[]
def isZ : Value → Bool
  | .int .u32 0 => true
  | _ => false
theorem page_info : (Try.prog.info? 115).map (fun i => (i.zero, i.size)) = some (some (.agg pz), 1024) := by kernel_rfl
theorem pz_size : pz.size = 1024 := by kernel_rfl
theorem pz_all : pz.toList.all isZ = true := by kernel_rfl
theorem isZ_eq {v : Value} (h : isZ v = true) : v = .int .u32 0 := by
  unfold isZ at h
  split at h
  · rfl
  · cases h
theorem pz_get {i : Nat} (h : i < 1024) : pz[i]? = some (.int .u32 0) := by
  have h1 : i < pz.size := by rw [pz_size]; exact h
  have h2 := List.all_eq_true.1 pz_all pz[i] (by simp)
  rw [Array.getElem?_eq_getElem h1, isZ_eq h2]
end Go.Proofs.Ytalnhbjpfnodiaa

/- add: a step is logged. -/
namespace Go.Proofs.Ytalnhbjpfnodiaa
open Go.RowKit
section
variable {w : World} {F : Nat → Prop} {p cb : Nat} {pv rv : Value} {pg cs : List Nat} {rs : List Rg} {tr : List (Nat × Nat)}
theorem row_type {b : Nat} {t : TypeId} {n : Nat} {f : Nat → Value} (h : w.rowIs b t n f) : ∃ c, w.heap[b]? = some (.cells c t (0, 0)) := by obtain ⟨c, h, _⟩ := h; exact ⟨c, h⟩
theorem own_type {e : TypeId} {s : Nat} {v : Value} {n g : Nat} {xs : List Value} (h : w.ownsRow 0 e s v n xs) (hg : v.ownBlock = some g) : ∃ c, w.heap[g]? = some (.cells c e (0, 0)) := by
  rcases h.2 with ⟨rfl, _⟩ | ⟨g', cap, cur, rfl, _, hc, _⟩
  · cases hg
  · cases hg; exact ⟨cur, hc⟩
theorem ne_type {a b : Nat} {t t' : TypeId} (h1 : ∃ c, w.heap[a]? = some (.cells c t (0, 0))) (h2 : ∃ c, w.heap[b]? = some (.cells c t' (0, 0))) (ht : t ≠ t') : a ≠ b := by
  rintro rfl
  obtain ⟨c, h1⟩ := h1
  obtain ⟨c', h2⟩ := h2
  rw [h1] at h2
  cases h2
  exact ht rfl
theorem cell_other (w : World) (a : Addr) (v : Value) (b i : Nat) (h : b ≠ a.block) : (w.setCell a v).cell? ⟨b, i, none⟩ = w.cell? ⟨b, i, none⟩ := World.cell?_of_block (Below.heap_setCell w a v b h)
theorem frozen_other (w : World) (a : Addr) (v : Value) (b i : Nat) (h : b ≠ a.block) : (w.setCell a v).frozen? ⟨b, i, none⟩ = w.frozen? ⟨b, i, none⟩ := World.frozen?_of_block (Below.heap_setCell w a v b h)
theorem ArX.of_heap {w' : World} (h : ArX w F p cb pv rv pg cs rs tr) (e : w'.heap = w.heap) : ArX w' F p cb pv rv pg cs rs tr := h.of_blocks (by rw [e]; exact Nat.le_refl _) fun i _ _ => by rw [e]
theorem ArX.tp (h : ArX w F p cb pv rv pg cs rs tr) : ∃ c, w.heap[p]? = some (.cells c 84 (0, 0)) := ⟨_, h.blk⟩
theorem ArX.page_ne (h : ArX w F p cb pv rv pg cs rs tr) {j b : Nat} (hb : pg[j]? = some b) : b ≠ p := ne_type (row_type (h.page j b hb).1) h.tp (by decide)
theorem pk_app (tr : List (Nat × Nat)) (e : Nat × Nat) (i : Nat) : pkv (tr ++ [e]) i = if i = tr.length then .int .u32 (pk (some e) : Int) else pkv tr i := by
  unfold pkv
  by_cases h : i = tr.length
  · rw [if_pos h, h, List.getElem?_append_right (Nat.le_refl _), Nat.sub_self]; rfl
  · rw [if_neg h]
    by_cases h2 : i < tr.length
    · rw [List.getElem?_append_left h2]
    · rw [List.getElem?_append_right (by omega), List.getElem?_eq_none (by simp; omega), List.getElem?_eq_none (by omega)]
/-- A step is put at the end. -/
theorem ArX.put {b : Nat} (h : ArX w F p cb pv rv pg cs rs tr) (hb : pg[tr.length / 1024]? = some b) (hl : tr.length < 8388608) (hlt : tr.length < 1024 * pg.length) (e : Nat × Nat) (he : 1 ≤ e.1 ∧ e.1 < 3 ∧ e.2 < cs.length) :
    ArX ((w.setCell ⟨b, tr.length % 1024, none⟩ (.int .u32 ((pk (some e) : Nat) : Int))).setCell ⟨p, 1, none⟩ (.int .i64 ((tr.length : Int) + 1))) F p cb pv rv pg cs rs (tr ++ [e]) where
  lt i hi := by have := h.lt i hi; simpa [World.setCell] using this
  blk := by
    have h1 : (w.setCell ⟨b, tr.length % 1024, none⟩ (.int .u32 ((pk (some e) : Nat) : Int))).heap[p]? = _ := (Below.heap_setCell w _ _ p (Ne.symm (h.page_ne hb))).trans h.blk
    have h2 := heap_setCell_same _ p 1 _ _ (.int .i64 ((tr.length : Int) + 1)) h1
    rw [List.length_append, List.length_singleton, Int.natCast_add]
    exact h2
  fp := h.fp
  cells := (h.cells.setOther (a := ⟨b, tr.length % 1024, none⟩) (ne_type (row_type h.cells) (row_type (h.page _ _ hb).1) (by decide)) _).setOther (a := ⟨p, 1, none⟩) (ne_type (row_type h.cells) h.tp (by decide)) _
  fc := h.fc
  pages := own_of_block h.pages fun g hg => (Below.heap_setCell _ _ _ g (ne_type (own_type h.pages hg) h.tp (by decide))).trans (Below.heap_setCell _ _ _ g (ne_type (own_type h.pages hg) (row_type (h.page _ _ hb).1) (by decide)))
  fpv := h.fpv
  page j b' hb' := by
    refine ⟨?_, (h.page j b' hb').2⟩
    refine World.rowIs.setOther ?_ (h.page_ne hb') _
    by_cases hbb : b' = b
    · subst hbb
      have hj : j = tr.length / 1024 := by
        have h1 := (List.getElem?_eq_some_iff.1 hb)
        have h2 := (List.getElem?_eq_some_iff.1 hb')
        exact (List.getElem?_inj h2.choose h.nodup).1 (hb'.trans hb.symm)
      subst hj
      refine ((h.page _ _ hb').1.set (tr.length % 1024) _).congr fun i hi => ?_
      rw [pk_app]
      by_cases hi2 : i = tr.length % 1024
      · rw [if_pos hi2, if_pos (by omega)]
      · rw [if_neg hi2, if_neg (by omega)]
    · refine ((h.page j b' hb').1.setOther hbb _).congr fun i hi => ?_
      rw [pk_app, if_neg]
      intro h3
      have hj : j = tr.length / 1024 := by omega
      subst hj
      rw [hb] at hb'
      exact hbb (Option.some.inj hb').symm
  nodup := h.nodup
  room := by rw [List.length_append, List.length_singleton]; have := h.room; omega
  good x hx := by
    rcases List.mem_append.1 hx with h1 | h1
    · exact h.good x h1
    · cases List.mem_singleton.1 h1; exact he
  long := by rw [List.length_append, List.length_singleton]; omega
  ncs := h.ncs
  wcs := h.wcs
  regs := own_of_block h.regs fun g hg => (Below.heap_setCell _ _ _ g (ne_type (own_type h.regs hg) h.tp (by decide))).trans (Below.heap_setCell _ _ _ g (ne_type (own_type h.regs hg) (row_type (h.page _ _ hb).1) (by decide)))
  frv := h.frv
  nrs := h.nrs
  wrs := h.wrs
theorem pg_get (hlt : tr.length < 1024 * pg.length) : ∃ b, pg[tr.length / 1024]? = some b := ⟨_, List.getElem?_eq_getElem (by omega)⟩
theorem map_get {pg : List Nat} {j b : Nat} (h : pg[j]? = some b) : (pg.map ptrV)[j]? = some (ptrV b) := by rw [List.getElem?_map, h]; rfl
theorem own_cell {e : TypeId} {q : Option Addr} {n c : Nat} {xs : List Value} (h : w.ownsRow 0 e 1 (.slice q n c) n xs) {j : Nat} {x : Value} (hx : xs[j]? = some x) : ∃ g, q = some ⟨g, 0, none⟩ ∧ w.cell? ⟨g, j, none⟩ = some x ∧ n ≤ c := by
  have hl := h.1
  have hj := (List.getElem?_eq_some_iff.1 hx).1
  rcases h.2 with ⟨h1, h2⟩ | ⟨g, cap, cur, h1, _, _, h3, _⟩
  · omega
  · cases h1
    refine ⟨g, rfl, ?_, h3⟩
    rw [World.ownsRow.cellAt h j (by omega), hx]
theorem ptr_info : (Try.prog.info? 102).map (fun i => (i.zero, i.size, i.bytes)) = some (some (.pointer none), 1, 8) := by kernel_rfl
theorem pkv_none {tr : List (Nat × Nat)} {i : Nat} (h : tr.length ≤ i) : pkv tr i = .int .u32 0 := by unfold pkv; rw [List.getElem?_eq_none h]; rfl
theorem fresh_lt {w : World} {b : Nat} (h : b < w.heap.size) (o : Obj) : (w.alloc o).heap[b]? = w.heap[b]? := Below.heap_alloc w o b h
theorem ArX.p_grown {w6 : World} (h : ArX w F p cb pv rv pg cs rs tr) (hg : ((w.alloc (.cells pz 115)).alloc (.cells #[ptrV w.heap.size] 102)).grownBy w6 pv.ownBlock) :
    w6.heap[p]? = some (.cells #[pv, .int .i64 (tr.length : Int), .pointer (some ⟨p, 0, none⟩), .slice (some ⟨cb, 0, none⟩) cs.length cs.length, rv] 84 (0, 0)) :=
  ((hg.block p (by have := h.lt p h.fp; simp; omega) (fun e => ne_type (own_type h.pages e.symm) h.tp (by decide) rfl)).trans ((fresh_lt (by have := h.lt p h.fp; simp; omega) _).trans (fresh_lt (h.lt p h.fp) _))).trans h.blk
/-- A page is put at the end. -/
theorem ArX.newPage {w6 : World} {v' : Value} (h : ArX w F p cb pv rv pg cs rs tr) (hroom : tr.length = 1024 * pg.length)
    (hown : w6.ownsRow 0 102 1 v' (pg.length + 1) (pg.map ptrV ++ [ptrV w.heap.size]))
    (hg : ((w.alloc (.cells pz 115)).alloc (.cells #[ptrV w.heap.size] 102)).grownBy w6 pv.ownBlock)
    (hat : v'.ownBlock = pv.ownBlock ∨ v'.ownBlock = some ((w.alloc (.cells pz 115)).alloc (.cells #[ptrV w.heap.size] 102)).heap.size) :
    ArX (w6.setCell ⟨p, 0, none⟩ v') (fun k => F k ∨ (w.heap.size ≤ k ∧ k < w6.heap.size)) p cb v' rv (pg ++ [w.heap.size]) cs rs tr := by
  have hsz := hg.size
  simp only [World.size_alloc] at hsz
  have old : ∀ k, k < w.heap.size → some k ≠ pv.ownBlock → k ≠ p → (w6.setCell ⟨p, 0, none⟩ v').heap[k]? = w.heap[k]? := fun k hk hne hkp =>
    (Below.heap_setCell _ _ _ k hkp).trans ((hg.block k (by simp; omega) hne).trans ((fresh_lt (by simp; omega) _).trans (fresh_lt hk _)))
  have hp := h.p_grown hg
  have hnew : w6.heap[w.heap.size]? = some (.cells pz 115 (0, 0)) := by
    refine (hg.block _ (by simp only [World.size_alloc]; omega) ?_).trans ((fresh_lt (by simp) _).trans (heap_alloc_new _ _))
    intro e
    have := h.lt _ (h.fpv _ e.symm)
    omega
  have hown2 : (w6.setCell ⟨p, 0, none⟩ v').ownsRow 0 102 1 v' (pg.length + 1) (pg.map ptrV ++ [ptrV w.heap.size]) :=
    own_of_block hown fun g hg' => Below.heap_setCell _ _ _ g (ne_type (own_type hown hg') ⟨_, hp⟩ (by decide))
  exact {
    lt := fun i hi => by
      show i < (w6.setCell _ _).heap.size
      simp only [World.setCell, Array.size_modify]
      rcases hi with h1 | h1
      · have := h.lt i h1; omega
      · exact h1.2
    blk := heap_setCell_same _ p 0 _ _ v' hp
    fp := .inl h.fp
    cells := h.cells.of_block (old cb (h.lt _ h.fc) (fun e => ne_type (own_type h.pages e.symm) (row_type h.cells) (by decide) rfl) (ne_type (row_type h.cells) h.tp (by decide)))
    fc := .inl h.fc
    pages := by rw [List.length_append, List.length_singleton, List.map_append]; exact hown2
    fpv := fun k hk => by
      rcases hat with h1 | h1
      · exact .inl (h.fpv k (h1 ▸ hk))
      · right
        have hk2 := (World.ownsRow.lt hown k hk).2
        rw [h1] at hk
        cases hk
        simp at hk2 ⊢
        omega
    page := fun j b hb => by
      by_cases hj : j < pg.length
      · rw [List.getElem?_append_left hj] at hb
        have h1 := h.page j b hb
        exact ⟨h1.1.of_block (old b (h.lt _ h1.2) (fun e => ne_type (own_type h.pages e.symm) (row_type h1.1) (by decide) rfl) (h.page_ne hb)), .inl h1.2⟩
      · have hj2 : j = pg.length := by
          have := (List.getElem?_eq_some_iff.1 hb).1
          rw [List.length_append, List.length_singleton] at this
          omega
        subst hj2
        rw [List.getElem?_append_right (Nat.le_refl _), Nat.sub_self] at hb
        cases hb
        have h1 : w.heap.size ≠ p := by have := h.lt p h.fp; omega
        refine ⟨⟨pz, (Below.heap_setCell _ _ _ _ h1).trans hnew, pz_size, fun i hi => ?_⟩, .inr ⟨Nat.le_refl _, by omega⟩⟩
        show pz[i]? = some (pkv tr (pg.length * 1024 + i))
        rw [pkv_none (by omega)]
        exact pz_get hi
    nodup := by
      refine List.nodup_append.2 ⟨h.nodup, by simp, fun a ha b hb => ?_⟩
      cases List.mem_singleton.1 hb
      obtain ⟨j, hj⟩ := List.getElem?_of_mem ha
      have := h.lt _ (h.page j a hj).2
      omega
    room := by rw [List.length_append, List.length_singleton]; omega
    good := h.good
    long := h.long
    ncs := h.ncs
    wcs := h.wcs
    regs := own_of_block h.regs fun g hg' => old g (h.lt _ (h.frv g hg')) (fun e => ne_type (own_type h.pages e.symm) (own_type h.regs hg') (by decide) rfl) (ne_type (own_type h.regs hg') h.tp (by decide))
    frv := fun k hk => .inl (h.frv k hk)
    nrs := h.nrs
    wrs := h.wrs }
theorem one_ptr (b : Nat) : ∀ u ∈ [ptrV b], u.oneCell' = true := by intro u hu; cases List.mem_singleton.1 hu; rfl
theorem cell_at1 (w : World) (o : Obj) (x : Value) (t : TypeId) : ∀ j u, [x][j]? = some u → ((w.alloc o).alloc (.cells #[x] t)).cell? ((⟨w.heap.size + 1, 0, none⟩ : Addr).add j) = some u := by
  have := cell_one_new (w.alloc o) x t
  simpa using this
/-- A call that changed this arena alone. -/
def Step (w : World) (F : Nat → Prop) (p : Nat) (cs : List Nat) (rs : List Rg) (tr : List (Nat × Nat)) (w' : World) : Prop :=
  ∃ F', (∀ k, F' k → F k ∨ w.heap.size ≤ k) ∧ Ar w' F' p cs rs tr ∧ Kept F w w'
end
section
variable {w : World} {F : Nat → Prop} {p cb : Nat} {pv rv : Value} {pg cs : List Nat} {rs : List Rg} {tr : List (Nat × Nat)}
set_option maxRecDepth 100000 in
theorem add_any (h : ArX w F p cb pv rv pg cs rs tr) (k a : Nat) (hk : 1 ≤ k ∧ k < 3) (ha : a < cs.length) (hl : tr.length < 8388608) :
    Calls Try.prog 82 #[.pointer (some ⟨p, 0, none⟩), .int .i64 (k : Int), .int .i64 (a : Int)] w fun e w' => e = .returned (.tuple #[]) ∧ Step w F p cs rs (tr ++ [(k, a)]) w' := by
  have hn := h.ncs
  have PA := Lib.hid (fun w => pack_any k a w hk (by omega))
  obtain ⟨z, hz⟩ : ∃ z, z = k * 65536 + a := ⟨_, rfl⟩
  rw [← hz] at PA
  have HZ := Lib.hid hz
  clear hz
  have hr := h.room
  have c0 := h.c0
  have c1 := h.c1
  obtain ⟨q0, cq0, hq0⟩ := own_shape h.pages
  rw [hq0] at c0
  have H0 := Lib.hid h
  have b1 : -9223372036854775808 ≤ (pg.length : Int) * 1024 := by omega
  have b2 : (pg.length : Int) * 1024 ≤ 9223372036854775807 := by omega
  clear h
  by_cases heq : tr.length = 1024 * pg.length
  · have t0 : ((tr.length : Int) == (pg.length : Int) * 1024) = true := by simp; omega
    obtain ⟨i0, hi, hz0, hz1, hz2⟩ := info_parts ptr_info
    have hzp := (zero_of_info page_info).1
    have HQ := Lib.hid hq0
    clear hq0
    have HE := Lib.hid heq
    clear heq
    have hpl : pg.length ≤ 8193 := by omega
    go_enter Try.func82, Try.ntmps82
    go_wp2
    go_quiet (fail)
    have h6 := Lib.hid (H0.out.of_heap (w' := w.drewN nq) rfl)
    have k6 := Lib.hid (show Kept F w (w.drewN nq) from ⟨rfl, rfl, rfl, Nat.le_refl _, fun _ _ _ => rfl⟩)
    have c0' : (w.drewN nq).cell? ⟨p, 0, none⟩ = _ := c0
    have hs6 := Lib.hid (show (w.drewN nq).heap.size = w.heap.size from rfl)
    generalize w.drewN nq = w6 at *
    have HW := Lib.hid (HQ.out ▸ h6.out.pages)
    go_wp2_with (at_builtin; refine wpList_append_own_at _ rfl _ _ 79 rfl 0 102 i0 (.pointer none) 1 8 Try.underlying79 hi hz0 hz1 hz2 rfl (by decide) (.slice q0 pg.length cq0) pg.length (pg.map ptrV) rfl (HW.out.alloc _ |>.alloc _) ⟨w6.heap.size + 1, 0, none⟩ 1 1 [ptrV w6.heap.size] rfl rfl (cell_at1 _ _ _ _) (one_ptr _) (by simp only [maxLen]; omega) (by omega) (Nat.zero_le _) ?_; intro v' w7 hown' hgrow _ hat; have hfx := Lib.hid hown'; have hgx := Lib.hid (HQ.out ▸ hgrow); have htx := Lib.hid (HQ.out ▸ hat); clear hat; obtain ⟨q1, cq1, rfl⟩ := own_shape hown'; clear hown' hgrow; have hbx := h6.out.p_grown hgx.out; have g0 := (cell_blk hbx 0).trans rfl; have g1 := frozen_blk hbx 0; clear hbx; rw [HQ.out] at g0)
    have h5 := h6.out.newPage HE.out hfx.out hgx.out htx.out
    have K5 := Lib.hid ((((k6.out.alloc _).alloc _).grown hgx.out (fun k e => .inl (h6.out.fpv k e))).setCell (p := ⟨p, 0, none⟩) (.inl h6.out.fp) (.slice q1 (pg.length + 1) cq1))
    have E5 := Lib.hid (show ∀ k, (F k ∨ (w6.heap.size ≤ k ∧ k < w7.heap.size)) → F k ∨ w.heap.size ≤ k from fun k hk => hk.imp id (fun h => by have := hs6.out; omega))
    have hlt : tr.length < 1024 * (pg ++ [w6.heap.size]).length := by have := HE.out; rw [List.length_append, List.length_singleton]; omega
    obtain ⟨w5, hw5⟩ : ∃ w5, w5 = w7.setCell ⟨p, 0, none⟩ (.slice q1 (pg.length + 1) cq1) := ⟨_, rfl⟩
    rw [← hw5] at h5 K5 ⊢
    obtain ⟨pg5, hpg5⟩ : ∃ x, x = pg ++ [w6.heap.size] := ⟨_, rfl⟩
    rw [← hpg5] at h5 hlt
    obtain ⟨pv5, hpv5⟩ : ∃ x, x = Value.slice q1 (pg.length + 1) cq1 := ⟨_, rfl⟩
    rw [← hpv5] at h5 ⊢
    clear hw5 hpg5 hpv5 hfx hgx htx g0 g1 HW h6 k6 hs6 HE HQ H0 c0' c0 c1 t0 hzp hz0 hz1 hz2 hi hr b1 b2
    obtain ⟨b, hb⟩ := pg_get (tr := tr) (pg := pg5) hlt
    obtain ⟨q, cq, rfl⟩ := own_shape h5.pages
    obtain ⟨g, rfl, d2, hcap⟩ := own_cell h5.pages (map_get hb)
    have d0 := h5.c0
    have d1 := h5.c1
    obtain ⟨HP, _⟩ := h5.page _ _ hb
    have d3 := HP.cell (i := tr.length % 1024) (Nat.mod_lt _ (by decide))
    have d4 := HP.frozen (tr.length % 1024)
    have d5 := h5.frz 1
    have hbp := h5.page_ne hb
    unfold ptrV at d2
    have H5 := Lib.hid h5
    have HB := Lib.hid hb
    clear h5 hb HP
    obtain ⟨n, hnn⟩ : ∃ n, n = tr.length := ⟨_, rfl⟩
    obtain ⟨m, hmm⟩ : ∃ m, m = (pg5).length := ⟨_, rfl⟩
    rw [← hnn] at d1 d2 d3 d4 hl hlt
    rw [← hmm] at d0 hlt
    have HN := Lib.hid hnn
    have HM := Lib.hid hmm
    clear hnn hmm
    have e1 : IntKind.i64.wrap ((n : Int) / 1024) = (n : Int) / 1024 := by rw [IntKind.wrap_i64]; omega
    have e2 : 0 ≤ (n : Int) / 1024 := by omega
    have e3 : (n : Int) / 1024 < (m : Int) := by omega
    have e4 : ((n : Int) / 1024).toNat = n / 1024 := by omega
    have e5 : (n : Int).tmod 1024 = (n : Int) % 1024 := Int.tmod_eq_emod_of_nonneg (by omega)
    have e6 : 0 ≤ (n : Int) % 1024 := by omega
    have e7 : (n : Int) % 1024 < 1024 := by omega
    have e8 : ((n : Int) % 1024).toNat = n % 1024 := by omega
    have d6 := (cell_other w5 ⟨b, n % 1024, none⟩ (.int .u32 (z : Int)) p 1 (Ne.symm hbp)).trans d1
    have d7 := (frozen_other w5 ⟨b, n % 1024, none⟩ (.int .u32 (z : Int)) p 1 (Ne.symm hbp)).trans d5
    have PA2 := fun w' => (PA.out w').mono (R' := fun e w2 => e = .returned (.int .u32 (z : Int)) ∧ w2 = w') (by rintro e w' ⟨rfl, rfl⟩; exact ⟨rfl, rfl⟩)
    refine wp_region_still_tail 21 (by kernel_rfl) (by kernel_rfl) ?_
    simp only [List.take_succ_cons, List.take_zero, List.drop_succ_cons, List.drop_zero]
    repeat (first | still_step | still_call (PA2 _))
    refine wpStill_nil ?_
    go_wp2
    have hz' := HZ.out
    subst hz'
    have hn' := HN.out
    subst hn'
    refine bodyPost_end (results_none rfl _ _ _) rfl ?_
    refine ⟨rfl, _, E5.out, ⟨_, _, _, _, (H5.out.put HB.out hl (by have := HM.out; omega) (k, a) ⟨hk.1, hk.2, ha⟩).of_heap rfl⟩, ?_⟩
    have fb := (H5.out.page _ _ HB.out).2
    exact ((K5.out.setCell (E5.out _ fb) _).setCell (p := ⟨p, 1, none⟩) (E5.out _ H5.out.fp) _).drew
  · have t0 : ((tr.length : Int) == (pg.length : Int) * 1024) = false := by simp; omega
    have hlt : tr.length < 1024 * pg.length := by omega
    clear hq0 heq
    go_enter Try.func82, Try.ntmps82
    go_wp2
    go_quiet (fail)
    go_wp2
    have h5 := H0.out.of_heap (w' := w.drewN nq) rfl
    have K5 := Lib.hid (show Kept F w (w.drewN nq) from ⟨rfl, rfl, rfl, Nat.le_refl _, fun _ _ _ => rfl⟩)
    have E5 := Lib.hid (show ∀ k, F k → F k ∨ w.heap.size ≤ k from fun _ h => .inl h)
    generalize w.drewN nq = w5 at *
    clear c0 c1 hr b1 b2 t0
    obtain ⟨b, hb⟩ := pg_get (tr := tr) (pg := pg) hlt
    obtain ⟨q, cq, rfl⟩ := own_shape h5.pages
    obtain ⟨g, rfl, d2, hcap⟩ := own_cell h5.pages (map_get hb)
    have d0 := h5.c0
    have d1 := h5.c1
    obtain ⟨HP, _⟩ := h5.page _ _ hb
    have d3 := HP.cell (i := tr.length % 1024) (Nat.mod_lt _ (by decide))
    have d4 := HP.frozen (tr.length % 1024)
    have d5 := h5.frz 1
    have hbp := h5.page_ne hb
    unfold ptrV at d2
    have H5 := Lib.hid h5
    have HB := Lib.hid hb
    clear h5 hb HP
    obtain ⟨n, hnn⟩ : ∃ n, n = tr.length := ⟨_, rfl⟩
    obtain ⟨m, hmm⟩ : ∃ m, m = (pg).length := ⟨_, rfl⟩
    rw [← hnn] at d1 d2 d3 d4 hl hlt
    rw [← hmm] at d0 hlt
    have HN := Lib.hid hnn
    have HM := Lib.hid hmm
    clear hnn hmm
    have e1 : IntKind.i64.wrap ((n : Int) / 1024) = (n : Int) / 1024 := by rw [IntKind.wrap_i64]; omega
    have e2 : 0 ≤ (n : Int) / 1024 := by omega
    have e3 : (n : Int) / 1024 < (m : Int) := by omega
    have e4 : ((n : Int) / 1024).toNat = n / 1024 := by omega
    have e5 : (n : Int).tmod 1024 = (n : Int) % 1024 := Int.tmod_eq_emod_of_nonneg (by omega)
    have e6 : 0 ≤ (n : Int) % 1024 := by omega
    have e7 : (n : Int) % 1024 < 1024 := by omega
    have e8 : ((n : Int) % 1024).toNat = n % 1024 := by omega
    have d6 := (cell_other w5 ⟨b, n % 1024, none⟩ (.int .u32 (z : Int)) p 1 (Ne.symm hbp)).trans d1
    have d7 := (frozen_other w5 ⟨b, n % 1024, none⟩ (.int .u32 (z : Int)) p 1 (Ne.symm hbp)).trans d5
    have PA2 := fun w' => (PA.out w').mono (R' := fun e w2 => e = .returned (.int .u32 (z : Int)) ∧ w2 = w') (by rintro e w' ⟨rfl, rfl⟩; exact ⟨rfl, rfl⟩)
    refine wp_region_still_tail 21 (by kernel_rfl) (by kernel_rfl) ?_
    simp only [List.take_succ_cons, List.take_zero, List.drop_succ_cons, List.drop_zero]
    repeat (first | still_step | still_call (PA2 _))
    refine wpStill_nil ?_
    go_wp2
    have hz' := HZ.out
    subst hz'
    have hn' := HN.out
    subst hn'
    refine bodyPost_end (results_none rfl _ _ _) rfl ?_
    refine ⟨rfl, _, E5.out, ⟨_, _, _, _, (H5.out.put HB.out hl (by have := HM.out; omega) (k, a) ⟨hk.1, hk.2, ha⟩).of_heap rfl⟩, ?_⟩
    have fb := (H5.out.page _ _ HB.out).2
    exact ((K5.out.setCell (E5.out _ fb) _).setCell (p := ⟨p, 1, none⟩) (E5.out _ H5.out.fp) _).drew
end
end Go.Proofs.Ytalnhbjpfnodiaa
