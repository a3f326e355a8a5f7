/- Region: a region more. -/
import Derived.Test.YtonkenicikjefaaJ
namespace Go.Proofs.Ytonkenicikjefaa
open Go.RowKit
theorem step_append_own_at {P : Program} {ops : Array Oper} {o : Oper} {a : Act} (w : World) {K : Act → World → Prop} {Q : Exit → Act → World → Prop} {E : Prop} (hgd : o.guard = none) (s x : Operand) (t : TypeId)
    (ho : o.op = .call { callee := .builtin .append, args := #[s, x], argTypes := #[t, t] })
    (base : Nat) (e : TypeId) (i : TypeInfo) (z : Value) (size bytes : Nat) (ht : P.underlying t = some (.slice e)) (hi : P.info? e = some i) (hz : i.zero = some z)
    (hsize : i.size = size) (hby : i.bytes = bytes) (hzs : z.cells.size = size) (hsz : 0 < size)
    (v : Value) (n : Nat) (xs : List Value) (hs : a.eval s = v) (hown : w.ownsRow base e size v n xs)
    (ad : Addr) (m c : Nat) (news : List Value) (hx : a.eval x = .slice (some ad) m c) (hl : news.length = m * size) (hnews : ∀ j u, news[j]? = some u → w.cell? (ad.add j) = some u) (h1 : ∀ u ∈ news, u.oneCell' = true)
    (h63 : n + m ≤ maxLen) (hbytes : (n + m) * bytes ≤ 140737488355328) (hbase : base ≤ w.heap.size)
    (h : ∀ v' w', w'.ownsRow base e size v' (n + m) (xs ++ news) → w.grownBy w' v.ownBlock → (v'.ownBlock = v.ownBlock ∨ v'.ownBlock = some w.heap.size) → K (a.put o.dst v') w') :
    if Region.wanted o (yielded ops a.tmps) = true then Oper.wp P o a w K Q else E := by
  have hw : Region.wanted o (yielded ops a.tmps) = true := by simp [Region.wanted, hgd]
  rw [if_pos hw]
  obtain ⟨v', w', hr, h2, h3, _, h5⟩ := run_append_own_at (P := P) w base t o.type e i z size bytes ht hi hz hsize hby hzs hsz v n xs hown ad m c news hl hnews h1 h63 hbytes hbase
  unfold Oper.wp execOp
  simp only [ho, resolve, invoke, builtin, Sem.run_bind, Sem.run_pure, Result.andThen_ok, List.map_toArray, List.map_cons, List.map_nil, hs, hx, hr]
  exact h _ _ h2 h3 h5
theorem reg_info : (Try.prog.info? 55).map (fun i => (i.zero, i.size, i.bytes)) = some (some (.agg #[.string ⟨#[]⟩, .int .i64 0, .int .i64 0]), 3, 32) := by kernel_rfl
section
variable {w : World} {F : Nat → Prop} {p cb : Nat} {pv rv : Value} {pg cs : List Nat} {rs : List Rg} {tr : List (Nat × Nat)}
theorem reg_new (w : World) (r : Rg) : ∀ j u, (rcells r)[j]? = some u → (w.alloc (.cells #[.string r.name, .int .i64 (r.base : Int), .int .i64 (r.size : Int)] 55)).cell? ((⟨w.heap.size, 0, none⟩ : Addr).add j) = some u := by
  intro j u hj
  have hc := fun i => cell_blk (heap_alloc_new w (.cells #[.string r.name, .int .i64 (r.base : Int), .int .i64 (r.size : Int)] 55)) i
  rw [Addr.add_mid, hc, Nat.zero_add]
  simpa [rcells] using hj
theorem rcells_one (r : Rg) : ∀ u ∈ rcells r, u.oneCell' = true := by intro u hu; simp [rcells] at hu; rcases hu with rfl | rfl | rfl <;> rfl
theorem ArX.p_reg {w6 : World} {o : Obj} (h : ArX w F p cb pv rv pg cs rs tr) (hg : (w.alloc o).grownBy w6 rv.ownBlock) :
    w6.heap[p]? = some (.cells #[pv, .int .i64 (tr.length : Int), .pointer (some ⟨p, 0, none⟩), .slice (some ⟨cb, 0, none⟩) cs.length cs.length, rv] 51 (0, 0)) :=
  ((hg.block p (by have := h.lt p h.fp; simp; omega) (fun e => ne_type (own_type h.regs e.symm) h.tp (by decide) rfl)).trans (fresh_lt (h.lt p h.fp) _)).trans h.blk
/-- A region is put at the end. -/
theorem ArX.addReg {w6 : World} {v' : Value} {o : Obj} (h : ArX w F p cb pv rv pg cs rs tr) (r : Rg) (hrs : rs.length < 64) (hr : r.base + r.size ≤ cs.length ∧ r.name.size ≤ 16 ∧ 1 ≤ r.size)
    (hown : w6.ownsRow 0 55 3 v' (rs.length + 1) (rs.flatMap rcells ++ rcells r))
    (hg : (w.alloc o).grownBy w6 rv.ownBlock) (hat : v'.ownBlock = rv.ownBlock ∨ v'.ownBlock = some (w.alloc o).heap.size) :
    ArX (w6.setCell ⟨p, 4, none⟩ v') (fun k => F k ∨ (w.heap.size ≤ k ∧ k < w6.heap.size)) p cb pv v' pg cs (rs ++ [r]) tr := by
  have hsz := hg.size
  simp only [World.size_alloc] at hsz
  have hp := h.p_reg hg
  have old : ∀ k, k < w.heap.size → (∃ (c : Array Value) (t : TypeId), w.heap[k]? = some (Obj.cells c t (0, 0)) ∧ t ≠ 55 ∧ t ≠ 51) → (w6.setCell ⟨p, 4, none⟩ v').heap[k]? = w.heap[k]? := fun k hk hc => by
    obtain ⟨c, t, h1, h2, h3⟩ := hc
    exact (Below.heap_setCell _ _ _ k (ne_type ⟨c, h1⟩ h.tp h3)).trans ((hg.block k (by simp; omega) (fun e => ne_type ⟨c, h1⟩ (own_type h.regs e.symm) h2 rfl)).trans (fresh_lt hk _))
  have hown2 : (w6.setCell ⟨p, 4, none⟩ v').ownsRow 0 55 3 v' (rs.length + 1) (rs.flatMap rcells ++ rcells r) :=
    own_of_block hown fun g hg' => Below.heap_setCell _ _ _ g (ne_type (own_type hown hg') ⟨_, hp⟩ (by decide))
  exact {
    lt := fun i hi => by
      show i < (w6.setCell _ _).heap.size
      simp only [World.setCell, Array.size_modify]
      rcases hi with h1 | h1
      · have := h.lt i h1; omega
      · exact h1.2
    blk := heap_setCell_same _ p 4 _ _ v' hp
    fp := .inl h.fp
    cells := h.cells.of_block (old cb (h.lt _ h.fc) (by obtain ⟨c, hc⟩ := row_type h.cells; exact ⟨c, _, hc, by decide, by decide⟩))
    fc := .inl h.fc
    pages := own_of_block h.pages fun g hg' => old g (h.lt _ (h.fpv g hg')) (by obtain ⟨c, hc⟩ := own_type h.pages hg'; exact ⟨c, _, hc, by decide, by decide⟩)
    fpv := fun k hk => .inl (h.fpv k hk)
    page := fun j b hb => ⟨(h.page j b hb).1.of_block (old b (h.lt _ (h.page j b hb).2) (by obtain ⟨c, hc⟩ := row_type (h.page j b hb).1; exact ⟨c, _, hc, by decide, by decide⟩)), .inl (h.page j b hb).2⟩
    nodup := h.nodup
    room := h.room
    good := h.good
    long := h.long
    ncs := h.ncs
    wcs := h.wcs
    regs := by
      rw [List.length_append, List.length_singleton, List.flatMap_append]
      simpa using hown2
    frv := fun k hk => by
      rcases hat with h1 | h1
      · exact .inl (h.frv k (h1 ▸ hk))
      · right
        have hk2 := (World.ownsRow.lt hown k hk).2
        rw [h1] at hk
        cases hk
        simp at hk2 ⊢
        omega
    nrs := by rw [List.length_append, List.length_singleton]; omega
    wrs := fun x hx => by
      rcases List.mem_append.1 hx with h1 | h1
      · exact h.wrs x h1
      · cases List.mem_singleton.1 h1; exact hr }
theorem region_bad (h : ArX w F p cb pv rv pg cs rs tr) (s : ByteArray) (k : Int) (hs : s.size ≤ 100000) (hE : regE cs.length rs s k ≠ 0) :
    Calls Try.prog 26 #[.pointer (some ⟨p, 0, none⟩), .string s, .int .i64 k] w fun e w' => e = .returned (.tuple #[.int .i64 0, .int .i64 (regE cs.length rs s k)]) ∧ Below w.heap.size w w' := by
  have HV := Lib.hid (valid_any h)
  have HR := Lib.hid (refused_any h s k hs)
  generalize regE cs.length rs s k = E at *
  have t1 : (E != 0) = true := by simpa using hE
  clear h hE
  go_enter Try.func26, Try.ntmps26
  go_wp2_with (first | (go_at_call 42; refine HV.out.mono ?_; rintro e w' ⟨rfl, rfl⟩) | (go_at_call 47; refine HR.out.mono ?_; rintro e w' ⟨rfl, hb⟩))
  go_ret2
  exact ⟨rfl, hb⟩
theorem regE_zero {n : Nat} {s : ByteArray} {k : Int} (h : regE n rs s k = 0) : nameL s.data.toList = true ∧ 1 ≤ k ∧ idxI rs s < 0 ∧ rs.length < 64 ∧ k ≤ (n : Int) - (endR rs : Int) := by
  unfold regE at h
  by_cases h1 : nameL s.data.toList = false
  · rw [if_pos h1] at h; cases h
  rw [if_neg h1] at h
  by_cases h2 : k < 1
  · rw [if_pos h2] at h; cases h
  rw [if_neg h2] at h
  by_cases h3 : 0 ≤ idxI rs s
  · rw [if_pos h3] at h; cases h
  rw [if_neg h3] at h
  by_cases h4 : 64 ≤ rs.length
  · rw [if_pos h4] at h; cases h
  rw [if_neg h4] at h
  by_cases h5 : (n : Int) - (endR rs : Int) < k
  · rw [if_pos h5] at h; cases h
  exact ⟨by simpa using h1, by omega, by omega, by omega, by omega⟩
theorem name_size {s : ByteArray} (h : nameL s.data.toList = true) : s.size ≤ 16 := by
  unfold nameL at h
  simp only [Bool.and_eq_true, decide_eq_true_eq] at h
  have := h.1.1.2
  simpa using this
set_option maxHeartbeats 1600000 in
set_option maxRecDepth 100000 in
theorem region_good (h : ArX w F p cb pv rv pg cs rs tr) (s : ByteArray) (k : Nat) (hs : s.size ≤ 100000) (hE : regE cs.length rs s (k : Int) = 0) :
    Calls Try.prog 26 #[.pointer (some ⟨p, 0, none⟩), .string s, .int .i64 (k : Int)] w fun e w' => e = .returned (.tuple #[.int .i64 (endR rs : Int), .int .i64 0]) ∧ Step w F p cs (rs ++ [⟨s, endR rs, k⟩]) tr w' := by
  have HV := Lib.hid (valid_any h)
  have HR := Lib.hid (refused_any h s k hs)
  rw [hE] at HR
  obtain ⟨g1, g2, _, g4, g5⟩ := regE_zero hE
  have g6 := name_size g1
  have EN := Lib.hid (fun (W : World) (e : ArX W F p cb pv rv pg cs rs tr) => end_any e)
  have FR := Lib.hid (fun (W : World) => fresh_any ⟨s, endR rs, k⟩ W (by simp; omega))
  have hpl := h.lt _ h.fp
  have hn3 := h.ncs
  obtain ⟨i0, hi, hz0, hz1, hz2⟩ := info_parts reg_info
  have H := Lib.hid h
  obtain ⟨q, c, hq⟩ := own_shape h.regs
  have HQ := Lib.hid hq
  clear h hE g1 hq
  go_enter Try.func26, Try.ntmps26
  go_wp2_with (first | (go_at_call 42; refine HV.out.mono ?_; rintro e w' ⟨rfl, rfl⟩) | (go_at_call 47; refine HR.out.mono ?_; rintro e w2 ⟨rfl, hb2⟩; have H2 := Lib.hid (H.out.below hb2)) | (go_at_call 48; refine (EN.out _ H2.out).mono ?_; rintro e w3 ⟨rfl, hb3⟩; have H3 := Lib.hid (H2.out.below hb3); have c4 := H3.out.c4))
  rw [HQ.out] at c4
  have hpl3 := H3.out.lt _ H3.out.fp
  have B3 := Lib.hid (hb2.trans (hb3.mono hb2.size))
  clear HV HR hb2 hb3 H2 hpl H
  go_region_law (first
    | (refine step_append_own_at _ rfl _ _ 41 rfl 0 55 i0 (.agg #[.string ⟨#[]⟩, .int .i64 0, .int .i64 0]) 3 32 Try.underlying41 hi hz0 hz1 hz2 rfl (by decide) (.slice q rs.length c) rs.length (rs.flatMap rcells) rfl (OW.out.alloc _) ⟨w4.heap.size, 0, none⟩ 1 1 (rcells ⟨s, endR rs, k⟩) rfl rfl (reg_new w4 ⟨s, endR rs, k⟩) (rcells_one _) (by simp only [maxLen]; omega) (by omega) (Nat.zero_le _) ?_; intro v' w6 hown' hgrow hat; have hfx := Lib.hid hown'; have hgx := Lib.hid (HQ.out ▸ hgrow); have htx := Lib.hid (HQ.out ▸ hat); clear hat; obtain ⟨q1, cq1, rfl⟩ := own_shape hown'; clear hown' hgrow; have hbx := H4.out.p_reg hgx.out; have g0 := (cell_blk hbx 4).trans rfl; have g1 := frozen_blk hbx 4; clear hbx; rw [HQ.out] at g0)
    | (go_simp; go_at_call 45; refine (FR.out _).mono ?_; rintro e w4 ⟨rfl, hb4⟩; have H4 := Lib.hid ((H3.out.of_heap (w' := w3.drew) rfl).below hb4); have c4' : w4.cell? ⟨p, 4, none⟩ = _ := (hb4.cell (p := ⟨p, 4, none⟩) hpl3).trans c4; have a4 : ∀ o, (w4.alloc o).cell? ⟨p, 4, none⟩ = _ := fun o => (World.cell?_of_block (fresh_lt (H4.out.lt _ H4.out.fp) o)).trans c4'; have OW := Lib.hid (HQ.out ▸ H4.out.regs)))
  all_goals
    go_wp2
    go_ret2
    have B4 : Below w.heap.size w w4 := B3.out.drew.trans (hb4.mono B3.out.size)
    refine ⟨rfl, _, fun j hj => hj.imp id (fun hh => Nat.le_trans B4.size hh.1), ⟨_, _, _, _, H4.out.addReg ⟨s, endR rs, k⟩ g4 ⟨by show endR rs + k ≤ cs.length; omega, g6, by show 1 ≤ k; omega⟩ hfx.out hgx.out htx.out⟩, ?_⟩
    exact (((Kept.of_below B4).alloc _).grown hgx.out (fun j e => .inl (H4.out.frv j e))).setCell (p := ⟨p, 4, none⟩) (.inl H4.out.fp) _
end
end Go.Proofs.Ytonkenicikjefaa
