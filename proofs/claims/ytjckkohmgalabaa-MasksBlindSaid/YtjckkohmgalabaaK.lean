/- Region: a region more. -/
import Derived.Test.YtjckkohmgalabaaJ
namespace Go.Proofs.Ytjckkohmgalabaa
open Go.RowKit
theorem step_append_own_at {P : Program} {ops : Array Oper} {o : Oper} {a : Act} (w : World) {K : Act → World → Prop} {Q : Exit → Act → World → Prop} {E : Prop} (hgd : o.guard = none) (s x : Operand) (t : TypeId)
    (ho : o.op = .call { callee := .builtin .append, args := #[s, x], argTypes := #[t, t] })
    (base : Nat) (e : TypeId) (i : TypeInfo) (z : Value) (size bytes : Nat) (ht : P.underlying t = some (.slice e)) (hi : P.info? e = some i) (hz : i.zero = some z)
    (hsize : i.size = size) (hby : i.bytes = bytes) (hzs : z.cells.size = size) (hsz : 0 < size)
    (v : Value) (n : Nat) (xs : List Value) (hs : a.eval s = v) (hown : w.ownsRow base e size v n xs)
    (ad : Addr) (m c : Nat) (news : List Value) (hx : a.eval x = .slice (some ad) m c) (hl : news.length = m * size) (hnews : ∀ j u, news[j]? = some u → w.cell? (ad.add j) = some u) (h1 : ∀ u ∈ news, u.oneCell' = true)
    (h63 : n + m ≤ maxLen) (hbytes : (n + m) * bytes ≤ 140737488355328) (hbase : base ≤ w.heap.size)
    (h : ∀ v' w', w'.ownsRow base e size v' (n + m) (xs ++ news) → w.grownBy w' v.ownBlock → (v'.ownBlock = v.ownBlock ∨ v'.ownBlock = some w.heap.size) → K (a.put o.dst v') w') :
    if Region.wanted o (yielded ops a.tmps) = true then Oper.wp P o a w K Q else E := by
  have hw : Region.wanted o (yielded ops a.tmps) = true := by simp [Region.wanted, hgd]
  rw [if_pos hw]
  obtain ⟨v', w', hr, h2, h3, _, h5⟩ := run_append_own_at (P := P) w base t o.type e i z size bytes ht hi hz hsize hby hzs hsz v n xs hown ad m c news hl hnews h1 h63 hbytes hbase
  unfold Oper.wp execOp
  simp only [ho, resolve, invoke, builtin, Sem.run_bind, Sem.run_pure, Result.andThen_ok, List.map_toArray, List.map_cons, List.map_nil, hs, hx, hr]
  exact h _ _ h2 h3 h5
theorem reg_info : (Try.prog.info? 120).map (fun i => (i.zero, i.size, i.bytes)) = some (some (.agg #[.string ⟨#[]⟩, .int .i64 0, .int .i64 0]), 3, 32) := by kernel_rfl
section
variable {w : World} {F : Nat → Prop} {p cb : Nat} {pv rv : Value} {pg cs : List Nat} {rs : List Rg} {tr : List (Nat × Nat)}
theorem reg_new (w : World) (r : Rg) : ∀ j u, (rcells r)[j]? = some u → (w.alloc (.cells #[.string r.name, .int .i64 (r.base : Int), .int .i64 (r.size : Int)] 120)).cell? ((⟨w.heap.size, 0, none⟩ : Addr).add j) = some u := by
  intro j u hj
  have hc := fun i => cell_blk (heap_alloc_new w (.cells #[.string r.name, .int .i64 (r.base : Int), .int .i64 (r.size : Int)] 120)) i
  rw [Addr.add_mid, hc, Nat.zero_add]
  simpa [rcells] using hj
theorem rcells_one (r : Rg) : ∀ u ∈ rcells r, u.oneCell' = true := by intro u hu; simp [rcells] at hu; rcases hu with rfl | rfl | rfl <;> rfl
theorem ArX.p_reg {w6 : World} {o : Obj} (h : ArX w F p cb pv rv pg cs rs tr) (hg : (w.alloc o).grownBy w6 rv.ownBlock) :
    w6.heap[p]? = some (.cells #[pv, .int .i64 (tr.length : Int), .pointer (some ⟨p, 0, none⟩), .slice (some ⟨cb, 0, none⟩) cs.length cs.length, rv] 84 (0, 0)) :=
  ((hg.block p (by have := h.lt p h.fp; simp; omega) (fun e => ne_type (own_type h.regs e.symm) h.tp (by decide) rfl)).trans (fresh_lt (h.lt p h.fp) _)).trans h.blk
/-- A region is put at the end. -/
theorem ArX.addReg {w6 : World} {v' : Value} {o : Obj} (h : ArX w F p cb pv rv pg cs rs tr) (r : Rg) (hrs : rs.length < 64) (hr : r.base + r.size ≤ cs.length ∧ r.name.size ≤ 16 ∧ 1 ≤ r.size)
    (hown : w6.ownsRow 0 120 3 v' (rs.length + 1) (rs.flatMap rcells ++ rcells r))
    (hg : (w.alloc o).grownBy w6 rv.ownBlock) (hat : v'.ownBlock = rv.ownBlock ∨ v'.ownBlock = some (w.alloc o).heap.size) :
    ArX (w6.setCell ⟨p, 4, none⟩ v') (fun k => F k ∨ (w.heap.size ≤ k ∧ k < w6.heap.size)) p cb pv v' pg cs (rs ++ [r]) tr := by
  have hsz := hg.size
  simp only [World.size_alloc] at hsz
  have hp := h.p_reg hg
  have old : ∀ k, k < w.heap.size → (∃ (c : Array Value) (t : TypeId), w.heap[k]? = some (Obj.cells c t (0, 0)) ∧ t ≠ 120 ∧ t ≠ 84) → (w6.setCell ⟨p, 4, none⟩ v').heap[k]? = w.heap[k]? := fun k hk hc => by
    obtain ⟨c, t, h1, h2, h3⟩ := hc
    exact (Below.heap_setCell _ _ _ k (ne_type ⟨c, h1⟩ h.tp h3)).trans ((hg.block k (by simp; omega) (fun e => ne_type ⟨c, h1⟩ (own_type h.regs e.symm) h2 rfl)).trans (fresh_lt hk _))
  have hown2 : (w6.setCell ⟨p, 4, none⟩ v').ownsRow 0 120 3 v' (rs.length + 1) (rs.flatMap rcells ++ rcells r) :=
    own_of_block hown fun g hg' => Below.heap_setCell _ _ _ g (ne_type (own_type hown hg') ⟨_, hp⟩ (by decide))
  exact {
    lt := fun i hi => by
      show i < (w6.setCell _ _).heap.size
      simp only [World.setCell, Array.size_modify]
      rcases hi with h1 | h1
      · have := h.lt i h1; omega
      · exact h1.2
    blk := heap_setCell_same _ p 4 _ _ v' hp
    fp := .inl h.fp
    cells := h.cells.of_block (old cb (h.lt _ h.fc) (by obtain ⟨c, hc⟩ := row_type h.cells; exact ⟨c, _, hc, by decide, by decide⟩))
    fc := .inl h.fc
    pages := own_of_block h.pages fun g hg' => old g (h.lt _ (h.fpv g hg')) (by obtain ⟨c, hc⟩ := own_type h.pages hg'; exact ⟨c, _, hc, by decide, by decide⟩)
    fpv := fun k hk => .inl (h.fpv k hk)
    page := fun j b hb => ⟨(h.page j b hb).1.of_block (old b (h.lt _ (h.page j b hb).2) (by obtain ⟨c, hc⟩ := row_type (h.page j b hb).1; exact ⟨c, _, hc, by decide, by decide⟩)), .inl (h.page j b hb).2⟩
    nodup := h.nodup
    room := h.room
    good := h.good
    long := h.long
    ncs := h.ncs
    wcs := h.wcs
    regs := by
      rw [List.length_append, List.length_singleton, List.flatMap_append]
      simpa using hown2
    frv := fun k hk => by
      rcases hat with h1 | h1
      · exact .inl (h.frv k (h1 ▸ hk))
      · right
        have hk2 := (World.ownsRow.lt hown k hk).2
        rw [h1] at hk
        cases hk
        simp at hk2 ⊢
        omega
    nrs := by rw [List.length_append, List.length_singleton]; omega
    wrs := fun x hx => by
      rcases List.mem_append.1 hx with h1 | h1
      · exact h.wrs x h1
      · cases List.mem_singleton.1 h1; exact hr }
theorem regE_zero {n : Nat} {s : ByteArray} {k : Int} (h : regE n rs s k = 0) : nameL s.data.toList = true ∧ 1 ≤ k ∧ idxI rs s < 0 ∧ rs.length < 64 ∧ k ≤ (n : Int) - (endR rs : Int) := by
  unfold regE at h
  by_cases h1 : nameL s.data.toList = false
  · rw [if_pos h1] at h; cases h
  rw [if_neg h1] at h
  by_cases h2 : k < 1
  · rw [if_pos h2] at h; cases h
  rw [if_neg h2] at h
  by_cases h3 : 0 ≤ idxI rs s
  · rw [if_pos h3] at h; cases h
  rw [if_neg h3] at h
  by_cases h4 : 64 ≤ rs.length
  · rw [if_pos h4] at h; cases h
  rw [if_neg h4] at h
  by_cases h5 : (n : Int) - (endR rs : Int) < k
  · rw [if_pos h5] at h; cases h
  exact ⟨by simpa using h1, by omega, by omega, by omega, by omega⟩
theorem name_size {s : ByteArray} (h : nameL s.data.toList = true) : s.size ≤ 16 := by
  unfold nameL at h
  simp only [Bool.and_eq_true, decide_eq_true_eq] at h
  have := h.1.1.2
  simpa using this
end
end Go.Proofs.Ytjckkohmgalabaa
