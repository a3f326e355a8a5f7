/- Regions read: fresh, is, end, index. -/
import Derived.Test.YtalnhbjpfnodiaaH
import Derived.Deep.RegionLaw
import Derived.Deep.RegionWith
import Derived.Laws.StructEq
import Derived.ChangeKeysEq
import Derived.Deep.Cut
namespace Go.Proofs.Ytalnhbjpfnodiaa
open Go.RowKit
def nameEq (r : Rg) (s : ByteArray) : Bool := r.name.toList == s.toList
theorem two_new0 (w : World) (c d : Obj) : ((w.alloc c).alloc d).heap[w.heap.size]? = some c := (fresh_lt (by simp) _).trans (heap_alloc_new _ _)
theorem two_new1 (w : World) (c d : Obj) : ((w.alloc c).alloc d).heap[w.heap.size + 1]? = some d := by
  have := heap_alloc_new (w.alloc c) d
  simpa using this
theorem rflat_get (rs : List Rg) : ∀ i r, rs[i]? = some r → (rs.flatMap rcells)[i * 3]? = some (.string r.name) ∧ (rs.flatMap rcells)[i * 3 + 1]? = some (.int .i64 (r.base : Int)) ∧ (rs.flatMap rcells)[i * 3 + 2]? = some (.int .i64 (r.size : Int)) := by
  induction rs with
  | nil => intro i r h; simp at h
  | cons q rs ih =>
    intro i r h
    cases i with
    | zero => simp at h; subst h; exact ⟨rfl, rfl, rfl⟩
    | succ i =>
      have := ih i r (by simpa using h)
      rw [List.flatMap_cons, show (i + 1) * 3 = (rcells q).length + i * 3 by simp [rcells]; omega, Nat.add_assoc, Nat.add_assoc, List.getElem?_append_right (by omega), List.getElem?_append_right (by omega), List.getElem?_append_right (by omega), Nat.add_sub_cancel_left, Nat.add_sub_cancel_left, Nat.add_sub_cancel_left]
      exact this
theorem own_reg {w : World} {q : Option Addr} {c : Nat} {rs : List Rg} (h : w.ownsRow 0 137 3 (.slice q rs.length c) rs.length (rs.flatMap rcells)) {i : Nat} {r : Rg} (hr : rs[i]? = some r) :
    ∃ g, q = some ⟨g, 0, none⟩ ∧ w.cell? ⟨g, i * 3, none⟩ = some (.string r.name) ∧ w.cell? ⟨g, i * 3 + 1, none⟩ = some (.int .i64 (r.base : Int)) ∧ w.cell? ⟨g, i * 3 + 2, none⟩ = some (.int .i64 (r.size : Int)) ∧ rs.length ≤ c := by
  have hj := (List.getElem?_eq_some_iff.1 hr).1
  obtain ⟨f0, f1, f2⟩ := rflat_get rs i r hr
  rcases h.2 with ⟨h1, h2⟩ | ⟨g, cap, cur, h1, _, _, h3, _⟩
  · omega
  · cases h1
    exact ⟨g, rfl, (World.ownsRow.cellAt h _ (by omega)).trans f0, (World.ownsRow.cellAt h _ (by omega)).trans f1, (World.ownsRow.cellAt h _ (by omega)).trans f2, h3⟩
/-- The index of the region with a name, or -1. -/
def idxI (rs : List Rg) (s : ByteArray) : Int := match rs.findIdx? (fun r => nameEq r s) with | some i => (i : Int) | none => -1
theorem idxI_some {rs : List Rg} {s : ByteArray} {k : Nat} {r : Rg} (hr : rs[k]? = some r) (h1 : nameEq r s = true) (h2 : ∀ (j : Nat) (q : Rg), j < k → rs[j]? = some q → nameEq q s = false) : idxI rs s = (k : Int) := by
  have hk := (List.getElem?_eq_some_iff.1 hr)
  have : rs.findIdx? (fun r => nameEq r s) = some k := by
    rw [List.findIdx?_eq_some_iff_getElem]
    refine ⟨hk.choose, by rw [hk.choose_spec]; exact h1, fun j hj => ?_⟩
    rw [h2 j _ hj (List.getElem?_eq_getElem (by have := hk.choose; omega))]
    decide
  unfold idxI
  rw [this]
theorem idxI_none {rs : List Rg} {s : ByteArray} (h2 : ∀ (j : Nat) (q : Rg), rs[j]? = some q → nameEq q s = false) : idxI rs s = -1 := by
  have : rs.findIdx? (fun r => nameEq r s) = none := by
    rw [List.findIdx?_eq_none_iff]
    intro x hx
    obtain ⟨j, hj⟩ := List.getElem?_of_mem hx
    exact h2 j x hj
  unfold idxI
  rw [this]
theorem idxI_cases (rs : List Rg) (s : ByteArray) : (idxI rs s = -1 ∧ ∀ r ∈ rs, nameEq r s = false) ∨ (∃ (k : Nat) (r : Rg), idxI rs s = (k : Int) ∧ rs[k]? = some r ∧ nameEq r s = true ∧ ∀ (j : Nat) (q : Rg), j < k → rs[j]? = some q → nameEq q s = false) := by
  cases h : rs.findIdx? (fun r => nameEq r s) with
  | none => exact .inl ⟨by unfold idxI; rw [h], List.findIdx?_eq_none_iff.1 h⟩
  | some k =>
    obtain ⟨h1, h2, h3⟩ := List.findIdx?_eq_some_iff_getElem.1 h
    refine .inr ⟨k, rs[k], by unfold idxI; rw [h], List.getElem?_eq_getElem h1, h2, fun j q hj hq => ?_⟩
    have := h3 j hj
    rw [(List.getElem?_eq_some_iff.1 hq).choose_spec] at this
    simpa using this
end Go.Proofs.Ytalnhbjpfnodiaa

/- refused. -/
namespace Go.Proofs.Ytalnhbjpfnodiaa
open Go.RowKit
/-- Why there may be no region of this name and size. -/
def regE (n : Nat) (rs : List Rg) (s : ByteArray) (k : Int) : Int :=
  if nameL s.data.toList = false then 6 else if k < 1 then 7 else if 0 ≤ idxI rs s then 8 else if 64 ≤ rs.length then 3 else if (n : Int) - (endR rs : Int) < k then 5 else 0
theorem idxI_bounds (rs : List Rg) (s : ByteArray) : -1 ≤ idxI rs s ∧ idxI rs s < (rs.length : Int) := by
  rcases idxI_cases rs s with ⟨e, _⟩ | ⟨k, r, e, hr, _⟩
  · rw [e]; omega
  · have := (List.getElem?_eq_some_iff.1 hr).1
    rw [e]; omega
theorem endR_le {n : Nat} {rs : List Rg} (h : ∀ r ∈ rs, r.base + r.size ≤ n ∧ r.name.size ≤ 16 ∧ 1 ≤ r.size) : endR rs ≤ n := by
  unfold endR
  cases e : rs.getLast? with
  | none => exact Nat.zero_le _
  | some r => exact (h r (List.mem_of_getLast? e)).1
section
variable {w : World} {F : Nat → Prop} {p cb : Nat} {pv rv : Value} {pg cs : List Nat} {rs : List Rg} {tr : List (Nat × Nat)}
end
end Go.Proofs.Ytalnhbjpfnodiaa

/- Region: a region more. -/
namespace Go.Proofs.Ytalnhbjpfnodiaa
open Go.RowKit
theorem step_append_own_at {P : Program} {ops : Array Oper} {o : Oper} {a : Act} (w : World) {K : Act → World → Prop} {Q : Exit → Act → World → Prop} {E : Prop} (hgd : o.guard = none) (s x : Operand) (t : TypeId)
    (ho : o.op = .call { callee := .builtin .append, args := #[s, x], argTypes := #[t, t] })
    (base : Nat) (e : TypeId) (i : TypeInfo) (z : Value) (size bytes : Nat) (ht : P.underlying t = some (.slice e)) (hi : P.info? e = some i) (hz : i.zero = some z)
    (hsize : i.size = size) (hby : i.bytes = bytes) (hzs : z.cells.size = size) (hsz : 0 < size)
    (v : Value) (n : Nat) (xs : List Value) (hs : a.eval s = v) (hown : w.ownsRow base e size v n xs)
    (ad : Addr) (m c : Nat) (news : List Value) (hx : a.eval x = .slice (some ad) m c) (hl : news.length = m * size) (hnews : ∀ j u, news[j]? = some u → w.cell? (ad.add j) = some u) (h1 : ∀ u ∈ news, u.oneCell' = true)
    (h63 : n + m ≤ maxLen) (hbytes : (n + m) * bytes ≤ 140737488355328) (hbase : base ≤ w.heap.size)
    (h : ∀ v' w', w'.ownsRow base e size v' (n + m) (xs ++ news) → w.grownBy w' v.ownBlock → (v'.ownBlock = v.ownBlock ∨ v'.ownBlock = some w.heap.size) → K (a.put o.dst v') w') :
    if Region.wanted o (yielded ops a.tmps) = true then Oper.wp P o a w K Q else E := by
  have hw : Region.wanted o (yielded ops a.tmps) = true := by simp [Region.wanted, hgd]
  rw [if_pos hw]
  obtain ⟨v', w', hr, h2, h3, _, h5⟩ := run_append_own_at (P := P) w base t o.type e i z size bytes ht hi hz hsize hby hzs hsz v n xs hown ad m c news hl hnews h1 h63 hbytes hbase
  unfold Oper.wp execOp
  simp only [ho, resolve, invoke, builtin, Sem.run_bind, Sem.run_pure, Result.andThen_ok, List.map_toArray, List.map_cons, List.map_nil, hs, hx, hr]
  exact h _ _ h2 h3 h5
theorem reg_info : (Try.prog.info? 137).map (fun i => (i.zero, i.size, i.bytes)) = some (some (.agg #[.string ⟨#[]⟩, .int .i64 0, .int .i64 0]), 3, 32) := by kernel_rfl
section
variable {w : World} {F : Nat → Prop} {p cb : Nat} {pv rv : Value} {pg cs : List Nat} {rs : List Rg} {tr : List (Nat × Nat)}
theorem reg_new (w : World) (r : Rg) : ∀ j u, (rcells r)[j]? = some u → (w.alloc (.cells #[.string r.name, .int .i64 (r.base : Int), .int .i64 (r.size : Int)] 137)).cell? ((⟨w.heap.size, 0, none⟩ : Addr).add j) = some u := by
  intro j u hj
  have hc := fun i => cell_blk (heap_alloc_new w (.cells #[.string r.name, .int .i64 (r.base : Int), .int .i64 (r.size : Int)] 137)) i
  rw [Addr.add_mid, hc, Nat.zero_add]
  simpa [rcells] using hj
theorem rcells_one (r : Rg) : ∀ u ∈ rcells r, u.oneCell' = true := by intro u hu; simp [rcells] at hu; rcases hu with rfl | rfl | rfl <;> rfl
theorem ArX.p_reg {w6 : World} {o : Obj} (h : ArX w F p cb pv rv pg cs rs tr) (hg : (w.alloc o).grownBy w6 rv.ownBlock) :
    w6.heap[p]? = some (.cells #[pv, .int .i64 (tr.length : Int), .pointer (some ⟨p, 0, none⟩), .slice (some ⟨cb, 0, none⟩) cs.length cs.length, rv] 84 (0, 0)) :=
  ((hg.block p (by have := h.lt p h.fp; simp; omega) (fun e => ne_type (own_type h.regs e.symm) h.tp (by decide) rfl)).trans (fresh_lt (h.lt p h.fp) _)).trans h.blk
/-- A region is put at the end. -/
theorem ArX.addReg {w6 : World} {v' : Value} {o : Obj} (h : ArX w F p cb pv rv pg cs rs tr) (r : Rg) (hrs : rs.length < 64) (hr : r.base + r.size ≤ cs.length ∧ r.name.size ≤ 16 ∧ 1 ≤ r.size)
    (hown : w6.ownsRow 0 137 3 v' (rs.length + 1) (rs.flatMap rcells ++ rcells r))
    (hg : (w.alloc o).grownBy w6 rv.ownBlock) (hat : v'.ownBlock = rv.ownBlock ∨ v'.ownBlock = some (w.alloc o).heap.size) :
    ArX (w6.setCell ⟨p, 4, none⟩ v') (fun k => F k ∨ (w.heap.size ≤ k ∧ k < w6.heap.size)) p cb pv v' pg cs (rs ++ [r]) tr := by
  have hsz := hg.size
  simp only [World.size_alloc] at hsz
  have hp := h.p_reg hg
  have old : ∀ k, k < w.heap.size → (∃ (c : Array Value) (t : TypeId), w.heap[k]? = some (Obj.cells c t (0, 0)) ∧ t ≠ 137 ∧ t ≠ 84) → (w6.setCell ⟨p, 4, none⟩ v').heap[k]? = w.heap[k]? := fun k hk hc => by
    obtain ⟨c, t, h1, h2, h3⟩ := hc
    exact (Below.heap_setCell _ _ _ k (ne_type ⟨c, h1⟩ h.tp h3)).trans ((hg.block k (by simp; omega) (fun e => ne_type ⟨c, h1⟩ (own_type h.regs e.symm) h2 rfl)).trans (fresh_lt hk _))
  have hown2 : (w6.setCell ⟨p, 4, none⟩ v').ownsRow 0 137 3 v' (rs.length + 1) (rs.flatMap rcells ++ rcells r) :=
    own_of_block hown fun g hg' => Below.heap_setCell _ _ _ g (ne_type (own_type hown hg') ⟨_, hp⟩ (by decide))
  exact {
    lt := fun i hi => by
      show i < (w6.setCell _ _).heap.size
      simp only [World.setCell, Array.size_modify]
      rcases hi with h1 | h1
      · have := h.lt i h1; omega
      · exact h1.2
    blk := heap_setCell_same _ p 4 _ _ v' hp
    fp := .inl h.fp
    cells := h.cells.of_block (old cb (h.lt _ h.fc) (by obtain ⟨c, hc⟩ := row_type h.cells; exact ⟨c, _, hc, by decide, by decide⟩))
    fc := .inl h.fc
    pages := own_of_block h.pages fun g hg' => old g (h.lt _ (h.fpv g hg')) (by obtain ⟨c, hc⟩ := own_type h.pages hg'; exact ⟨c, _, hc, by decide, by decide⟩)
    fpv := fun k hk => .inl (h.fpv k hk)
    page := fun j b hb => ⟨(h.page j b hb).1.of_block (old b (h.lt _ (h.page j b hb).2) (by obtain ⟨c, hc⟩ := row_type (h.page j b hb).1; exact ⟨c, _, hc, by decide, by decide⟩)), .inl (h.page j b hb).2⟩
    nodup := h.nodup
    room := h.room
    good := h.good
    long := h.long
    ncs := h.ncs
    wcs := h.wcs
    regs := by
      rw [List.length_append, List.length_singleton, List.flatMap_append]
      simpa using hown2
    frv := fun k hk => by
      rcases hat with h1 | h1
      · exact .inl (h.frv k (h1 ▸ hk))
      · right
        have hk2 := (World.ownsRow.lt hown k hk).2
        rw [h1] at hk
        cases hk
        simp at hk2 ⊢
        omega
    nrs := by rw [List.length_append, List.length_singleton]; omega
    wrs := fun x hx => by
      rcases List.mem_append.1 hx with h1 | h1
      · exact h.wrs x h1
      · cases List.mem_singleton.1 h1; exact hr }
theorem regE_zero {n : Nat} {s : ByteArray} {k : Int} (h : regE n rs s k = 0) : nameL s.data.toList = true ∧ 1 ≤ k ∧ idxI rs s < 0 ∧ rs.length < 64 ∧ k ≤ (n : Int) - (endR rs : Int) := by
  unfold regE at h
  by_cases h1 : nameL s.data.toList = false
  · rw [if_pos h1] at h; cases h
  rw [if_neg h1] at h
  by_cases h2 : k < 1
  · rw [if_pos h2] at h; cases h
  rw [if_neg h2] at h
  by_cases h3 : 0 ≤ idxI rs s
  · rw [if_pos h3] at h; cases h
  rw [if_neg h3] at h
  by_cases h4 : 64 ≤ rs.length
  · rw [if_pos h4] at h; cases h
  rw [if_neg h4] at h
  by_cases h5 : (n : Int) - (endR rs : Int) < k
  · rw [if_pos h5] at h; cases h
  exact ⟨by simpa using h1, by omega, by omega, by omega, by omega⟩
theorem name_size {s : ByteArray} (h : nameL s.data.toList = true) : s.size ≤ 16 := by
  unfold nameL at h
  simp only [Bool.and_eq_true, decide_eq_true_eq] at h
  have := h.1.1.2
  simpa using this
end
end Go.Proofs.Ytalnhbjpfnodiaa

/- Find, Regions. -/
namespace Go.Proofs.Ytalnhbjpfnodiaa
open Go.RowKit
def rgV (r : Rg) : Value := .agg #[.string r.name, .int .i64 (r.base : Int), .int .i64 (r.size : Int)]
def rg0 : Rg := ⟨⟨#[]⟩, 0, 0⟩
section
variable {w : World} {F : Nat → Prop} {p cb : Nat} {pv rv : Value} {pg cs : List Nat} {rs : List Rg} {tr : List (Nat × Nat)}
abbrev zeroR : Obj := .cells #[.string ⟨#[]⟩, .int .i64 0, .int .i64 0] 137
def FiPost (w : World) (r : Rg) (err : Int) (e : Ending) (w' : World) : Prop := e = .returned (.tuple #[rgV r, .int .i64 err]) ∧ Below w.heap.size w w'
/-- Regions in memory. -/
def RS (W : World) (v : Value) (rs : List Rg) : Prop :=
  ∃ q c, v = .slice q rs.length c ∧ ∀ i r, rs[i]? = some r → ∃ b o, q = some ⟨b, o, none⟩ ∧ W.cell? ⟨b, o + i * 3, none⟩ = some (.string r.name) ∧ W.cell? ⟨b, o + i * 3 + 1, none⟩ = some (.int .i64 (r.base : Int)) ∧ W.cell? ⟨b, o + i * 3 + 2, none⟩ = some (.int .i64 (r.size : Int)) ∧ b < W.heap.size
theorem RS.below {w w' : World} {v : Value} {rs : List Rg} (h : RS w v rs) (hb : Below w.heap.size w w') : RS w' v rs := by
  obtain ⟨q, c, rfl, hx⟩ := h
  refine ⟨q, c, rfl, fun i r hi => ?_⟩
  obtain ⟨b, o, rfl, h1, h2, h3, h4⟩ := hx i r hi
  exact ⟨b, o, rfl, (hb.cell (p := ⟨b, o + i * 3, none⟩) h4).trans h1, (hb.cell (p := ⟨b, o + i * 3 + 1, none⟩) h4).trans h2, (hb.cell (p := ⟨b, o + i * 3 + 2, none⟩) h4).trans h3, Nat.lt_of_lt_of_le h4 hb.size⟩
theorem RS.own {w : World} {B : Nat} {v : Value} {rs : List Rg} (h : w.ownsRow B 137 3 v rs.length (rs.flatMap rcells)) : RS w v rs := by
  obtain ⟨q, c, rfl⟩ := own_shape h
  refine ⟨q, c, rfl, fun i r hi => ?_⟩
  have hj := (List.getElem?_eq_some_iff.1 hi).1
  obtain ⟨f0, f1, f2⟩ := rflat_get rs i r hi
  have hlt := World.ownsRow.lt h
  rcases h.2 with ⟨h1, h2⟩ | ⟨g, cap, cur, h1, _, _, h3, _⟩
  · omega
  · cases h1
    refine ⟨g, 0, rfl, ?_⟩
    rw [Nat.zero_add]
    exact ⟨(World.ownsRow.cellAt h _ (by omega)).trans f0, (World.ownsRow.cellAt h _ (by omega)).trans f1, (World.ownsRow.cellAt h _ (by omega)).trans f2, (hlt g rfl).2⟩
def RsPost (w : World) (rs : List Rg) (e : Ending) (w' : World) : Prop := ∃ v, e = .returned v ∧ RS w' v rs ∧ Below w.heap.size w w'
theorem own_below {w w' : World} {B : Nat} {e : TypeId} {s n : Nat} {v : Value} {xs : List Value} (h : w.ownsRow B e s v n xs) (hb : Below w.heap.size w w') : w'.ownsRow B e s v n xs :=
  own_of_block h fun g hg => hb.block g ((World.ownsRow.lt h g hg).2)
end
end Go.Proofs.Ytalnhbjpfnodiaa

/- SameEvents, SameRegions, Same. -/
namespace Go.Proofs.Ytalnhbjpfnodiaa
open Go.RowKit
theorem eqEv (w : World) (a b c d : Int) : (Op.equalIn 10000 77 (.agg #[.int .i32 a, .int .i32 b]) (.agg #[.int .i32 c, .int .i32 d])).run Try.prog w = .ok (a == c && b == d) w := by
  rw [show (10000 : Nat) = 9999 + 1 from rfl, run_equalIn_agg w 9999 _ _ _ (by kernel_rfl) (by kernel_rfl)]
  unfold Program.fieldsOf
  simp [Op.eqFields, go_sem]
  by_cases h1 : a = c <;> by_cases h2 : b = d <;> simp [h1, h2]
theorem guardEv (op : BinOp) (x y : Operand) (xs ys : Array Value) (w : World) : (eqGuard op 77 x y (.agg xs) (.agg ys)).run Try.prog w = .ok () w := run_eqGuard_agg w op _ x y xs ys (by kernel_rfl)
theorem eqRg (w : World) (a b : ByteArray) (c d e f : Int) : (Op.equalIn 10000 137 (.agg #[.string a, .int .i64 c, .int .i64 d]) (.agg #[.string b, .int .i64 e, .int .i64 f])).run Try.prog w = .ok (a.toList == b.toList && c == e && d == f) w := by
  rw [show (10000 : Nat) = 9999 + 1 from rfl, run_equalIn_agg w 9999 _ _ _ (by kernel_rfl) (by kernel_rfl)]
  unfold Program.fieldsOf
  simp [Op.eqFields, go_sem]
  by_cases h1 : a.toList = b.toList <;> by_cases h2 : c = e <;> by_cases h3 : d = f <;> simp [h1, h2, h3]
theorem guardRg (op : BinOp) (x y : Operand) (xs ys : Array Value) (w : World) : (eqGuard op 137 x y (.agg xs) (.agg ys)).run Try.prog w = .ok () w := run_eqGuard_agg w op _ x y xs ys (by kernel_rfl)
theorem drewN_drewN (w : World) (a b : Nat) : (w.drewN a).drewN b = w.drewN (a + b) := by simp [World.drewN, Nat.add_assoc]
theorem take_ne {α : Type} {xs ys : List α} {k : Nat} {x y : α} (hx : xs[k]? = some x) (hy : ys[k]? = some y) (h : x ≠ y) : ¬ xs = ys := by
  rintro rfl; rw [hx] at hy; cases hy; exact h rfl
theorem take_eq {α : Type} {xs ys : List α} {k : Nat} {x y : α} (hx : xs[k]? = some x) (hy : ys[k]? = some y) (h : x = y) (hd : xs.take k = ys.take k) : xs.take (k + 1) = ys.take (k + 1) := by
  rw [List.take_add_one, List.take_add_one, hx, hy, hd, h]
theorem take_all {α : Type} {xs ys : List α} {n : Nat} (h1 : n = xs.length) (h2 : n = ys.length) (h : xs.take n = ys.take n) : xs = ys := by
  rwa [List.take_of_length_le (by omega), List.take_of_length_le (by omega)] at h
theorem below_drewN {B : Nat} {w w' : World} (h : Below B w w') (n : Nat) : Below B w (w'.drewN n) := ⟨h.os, h.tape, h.output, h.size, h.block⟩
attribute [local go_sem] guardEv guardRg
open Classical in
/-- What a comparison of two lists returns. -/
noncomputable def eqB {α : Type} (xs ys : List α) : Bool := decide (xs = ys)
theorem eqB_true {α : Type} {xs ys : List α} (h : xs = ys) : eqB xs ys = true := by unfold eqB; simp [h]
theorem eqB_false {α : Type} {xs ys : List α} (h : ¬ xs = ys) : eqB xs ys = false := by unfold eqB; simp [h]
theorem ev_ne {x y : Nat × Nat} (h : ¬ x = y) : ((x.1 : Int) == (y.1 : Int) && (x.2 : Int) == (y.2 : Int)) = false := by
  rw [Bool.and_eq_false_iff]
  by_cases e1 : x.1 = y.1
  · right
    have : ¬ x.2 = y.2 := fun e2 => h (Prod.ext e1 e2)
    rw [beq_eq_false_iff_ne]; omega
  · left
    rw [beq_eq_false_iff_ne]; omega
theorem rg_ne {x y : Rg} (h : ¬ x = y) : (x.name.toList == y.name.toList && (x.base : Int) == (y.base : Int) && (x.size : Int) == (y.size : Int)) = false := by
  rw [Bool.eq_false_iff]
  intro e
  simp only [Bool.and_eq_true] at e
  obtain ⟨⟨e1, e2⟩, e3⟩ := e
  have e1 : x.name.toList = y.name.toList := by simpa using e1
  have e2 : (x.base : Int) = (y.base : Int) := by simpa using e2
  have e3 : (x.size : Int) = (y.size : Int) := by simpa using e3
  have e1 : x.name = y.name := by
    rw [Lib.toList_data, Lib.toList_data] at e1
    exact ByteArray.ext (Array.ext' e1)
  apply h
  cases x; cases y
  simp only [Rg.mk.injEq]
  exact ⟨e1, Int.ofNat.inj e2, Int.ofNat.inj e3⟩
end Go.Proofs.Ytalnhbjpfnodiaa

/- An arena of a law's own. -/
namespace Go.Proofs.Ytalnhbjpfnodiaa
open Go.RowKit
/-- An arena of the call's own (the call began in w0), beside the blocks R. -/
structure Ow (w0 W : World) (R : Nat → Prop) (p : Nat) (cs : List Nat) (rs : List Rg) (tr : List (Nat × Nat)) : Prop where
  ex : ∃ F, (∀ k, F k → w0.heap.size ≤ k ∧ ¬ R k) ∧ Ar W F p cs rs tr
  bel : Below w0.heap.size w0 W
  rlt : ∀ k, R k → k < W.heap.size
/-- What a call leaves: the arena, and the blocks R as they were. -/
def OwPost (w0 W : World) (R : Nat → Prop) (p : Nat) (cs : List Nat) (rs : List Rg) (tr : List (Nat × Nat)) (v : Value) (e : Ending) (W' : World) : Prop :=
  e = .returned v ∧ Ow w0 W' R p cs rs tr ∧ W.heap.size ≤ W'.heap.size ∧ ∀ k, R k → W'.heap[k]? = W.heap[k]?
section
variable {w0 W W' : World} {R : Nat → Prop} {p : Nat} {cs cs' : List Nat} {rs rs' : List Rg} {tr tr' : List (Nat × Nat)}
theorem Ow.kept {G R' : Nat → Prop} (h : Ow w0 W R p cs rs tr) (hk : Kept G W W') (hG : ∀ k, G k → (R k ∨ W.heap.size ≤ k) ∧ w0.heap.size ≤ k) (hR : ∀ k, R' k → k < W'.heap.size ∧ (R k ∨ W.heap.size ≤ k)) : Ow w0 W' R' p cs rs tr := by
  obtain ⟨⟨F, hF, ha⟩, hb, hr⟩ := h
  have hlt : ∀ k, F k → k < W.heap.size := by obtain ⟨_, _, _, _, hx⟩ := ha; exact hx.lt
  refine ⟨⟨F, fun k hf => ⟨(hF k hf).1, fun h2 => ?_⟩, ha.kept hk fun k hf h2 => ?_⟩, hb.trans (hk.below hb.size fun k hk2 => (hG k hk2).2), fun k h2 => (hR k h2).1⟩
  · rcases (hR k h2).2 with h3 | h3
    · exact (hF k hf).2 h3
    · have := hlt k hf; omega
  · rcases (hG k h2).1 with h3 | h3
    · exact (hF k hf).2 h3
    · have := hlt k hf; omega
theorem Ow.below (h : Ow w0 W R p cs rs tr) (hk : Below W.heap.size W W') : Ow w0 W' R p cs rs tr :=
  h.kept (G := fun _ => False) (Kept.of_below hk) (fun _ hf => hf.elim) fun k hr => ⟨Nat.lt_of_lt_of_le (h.rlt k hr) hk.size, .inl hr⟩
theorem Ow.beside {R' : Nat → Prop} (h : Ow w0 W R p cs rs tr) (hk : Below W.heap.size W W') (hR : ∀ k, R' k → k < W'.heap.size ∧ (R k ∨ W.heap.size ≤ k)) : Ow w0 W' R' p cs rs tr :=
  h.kept (G := fun _ => False) (Kept.of_below hk) (fun _ hf => hf.elim) hR
/-- A call that changed this arena alone. -/
theorem Ow.step {F : Nat → Prop} (hb : Below w0.heap.size w0 W) (hr : ∀ k, R k → k < W.heap.size) (hF : ∀ k, F k → w0.heap.size ≤ k ∧ ¬ R k) (h : Step W F p cs' rs' tr' W') {v : Value} : OwPost w0 W R p cs' rs' tr' v (.returned v) W' := by
  obtain ⟨F', e, ha, hk⟩ := h
  refine ⟨rfl, ⟨⟨F', fun k h1 => ?_, ha⟩, hb.trans (hk.below hb.size fun k h1 => (hF k h1).1), fun k h1 => Nat.lt_of_lt_of_le (hr k h1) hk.size⟩, hk.size, fun k h1 => hk.block k (hr k h1) fun h2 => (hF k h2).2 h1⟩
  rcases e k h1 with h2 | h2
  · exact hF k h2
  · exact ⟨Nat.le_trans hb.size h2, fun h3 => by have := hr k h3; omega⟩
theorem Ow.ok (h : Ow w0 W R p cs rs tr) : 1 ≤ cs.length ∧ cs.length ≤ 65536 ∧ tr.length ≤ 8388608 ∧ rs.length ≤ 64 ∧ endR rs ≤ cs.length ∧ (∀ r ∈ rs, r.base + r.size ≤ cs.length ∧ r.name.size ≤ 16 ∧ 1 ≤ r.size) ∧ (∀ e ∈ tr, 1 ≤ e.1 ∧ e.1 < 3 ∧ e.2 < cs.length) := by
  obtain ⟨⟨F, hF, _, _, _, _, h⟩, _, _⟩ := h
  exact ⟨h.ncs.1, h.ncs.2, h.long, h.nrs, endR_le h.wrs, h.wrs, h.good⟩
theorem ow_new (n : Nat) (w0 W : World) (R : Nat → Prop) (hb : Below w0.heap.size w0 W) (hr : ∀ k, R k → k < W.heap.size) (h1 : 1 ≤ n) (h2 : n ≤ 65536) :
    Calls Try.prog 41 #[.int .i64 (n : Int)] W fun e W' => ∃ p, e = .returned (.tuple #[.pointer (some ⟨p, 0, none⟩), .int .i64 0]) ∧ Ow w0 W' R p (List.replicate n 0) [] [] ∧ Below W.heap.size W W' :=
  (new_any n W h1 h2).mono fun e W' ⟨p, F, he, ha, hb2, hF⟩ => ⟨p, he, ⟨⟨F, fun k hk => ⟨Nat.le_trans hb.size (hF k hk), fun h3 => by have := hr k h3; have := hF k hk; omega⟩, ha⟩, hb.trans (hb2.mono hb.size), fun k hk => Nat.lt_of_lt_of_le (hr k hk) hb2.size⟩, hb2⟩
theorem ow_load (h : Ow w0 W R p cs rs tr) (a : Nat) (ha : a < cs.length) (hl : tr.length < 8388608) : Calls Try.prog 76 #[.pointer (some ⟨p, 0, none⟩), .int .i64 (a : Int)] W (OwPost w0 W R p cs rs (tr ++ [(1, a)]) (.tuple #[.int .u64 ((cs.getD a 0 : Nat) : Int), .int .i64 0])) := by
  obtain ⟨⟨F, hF, _, _, _, _, hx⟩, hb, hr⟩ := h
  refine (load_good hx a ha hl).mono ?_
  rintro e w' ⟨rfl, hs⟩
  exact Ow.step hb hr hF hs
theorem ow_store (h : Ow w0 W R p cs rs tr) (a v : Nat) (ha : a < cs.length) (hv : v < 18446744073709551616) (hl : tr.length < 8388608) : Calls Try.prog 43 #[.pointer (some ⟨p, 0, none⟩), .int .i64 (a : Int), .int .u64 (v : Int)] W (OwPost w0 W R p (cs.set a v) rs (tr ++ [(2, a)]) (.int .i64 0)) := by
  obtain ⟨⟨F, hF, _, _, _, _, hx⟩, hb, hr⟩ := h
  refine (store_good hx a v ha hv hl).mono ?_
  rintro e w' ⟨rfl, hs⟩
  exact Ow.step hb hr hF hs
theorem ow_load_bad (h : Ow w0 W R p cs rs tr) (x : Int) (hx : stepE cs.length tr.length x ≠ 0) : Calls Try.prog 76 #[.pointer (some ⟨p, 0, none⟩), .int .i64 x] W fun e w' => e = .returned (.tuple #[.int .u64 0, .int .i64 (stepE cs.length tr.length x)]) ∧ W = w' := by
  obtain ⟨⟨F, hF, _, _, _, _, h⟩, _, _⟩ := h
  exact load_bad h x hx
theorem ow_store_bad (h : Ow w0 W R p cs rs tr) (x v : Int) (hx : stepE cs.length tr.length x ≠ 0) : Calls Try.prog 43 #[.pointer (some ⟨p, 0, none⟩), .int .i64 x, .int .u64 v] W fun e w' => e = .returned (.int .i64 (stepE cs.length tr.length x)) ∧ W = w' := by
  obtain ⟨⟨F, hF, _, _, _, _, h⟩, _, _⟩ := h
  exact store_bad h x v hx
theorem ow_steps (h : Ow w0 W R p cs rs tr) : Calls Try.prog 34 #[.pointer (some ⟨p, 0, none⟩)] W fun e w' => e = .returned (.int .i64 (tr.length : Int)) ∧ W = w' := by
  obtain ⟨⟨F, hF, _, _, _, _, h⟩, _, _⟩ := h
  exact steps_any h
theorem ow_has (h : Ow w0 W R p cs rs tr) (a b : Int) (ha : -9223372036854775808 ≤ a ∧ a ≤ 9223372036854775807) : Calls Try.prog 59 #[.pointer (some ⟨p, 0, none⟩), .int .i64 a, .int .i64 b] W fun e w' => e = .returned (.int .i64 (hasE cs.length a b)) ∧ W = w' := by
  obtain ⟨⟨F, hF, _, _, _, _, h⟩, _, _⟩ := h
  exact has_any h a b ha
theorem ow_room (h : Ow w0 W R p cs rs tr) (k : Int) : Calls Try.prog 55 #[.pointer (some ⟨p, 0, none⟩), .int .i64 k] W fun e w' => e = .returned (.int .i64 (roomE tr.length k)) ∧ W = w' := by
  obtain ⟨⟨F, hF, _, _, _, _, h⟩, _, _⟩ := h
  exact room_any h k
theorem ow_events (h : Ow w0 W R p cs rs tr) : Calls Try.prog 31 #[.pointer (some ⟨p, 0, none⟩)] W (EvPost W tr) := by
  obtain ⟨⟨F, hF, _, _, _, _, h⟩, _, _⟩ := h
  exact events_any h
theorem ow_cells (h : Ow w0 W R p cs rs tr) : Calls Try.prog 32 #[.pointer (some ⟨p, 0, none⟩)] W (CePost W cs) := by
  obtain ⟨⟨F, hF, _, _, _, _, h⟩, _, _⟩ := h
  exact cells_any h
end
/-- The calls of awake. -/
theorem two_es (W : World) (e1 e2 : Nat × Nat) : ES (W.alloc (.cells #[.int .i32 (e1.1 : Int), .int .i32 (e1.2 : Int), .int .i32 (e2.1 : Int), .int .i32 (e2.2 : Int)] 77)) (.slice (some ⟨W.heap.size, 0, none⟩) 2 2) [e1, e2] := by
  have hb := heap_alloc_new W (.cells #[.int .i32 (e1.1 : Int), .int .i32 (e1.2 : Int), .int .i32 (e2.1 : Int), .int .i32 (e2.2 : Int)] 77)
  refine ⟨_, _, rfl, fun i e hi => ⟨W.heap.size, 0, rfl, ?_⟩⟩
  rw [Nat.zero_add, cell_blk hb, cell_blk hb]
  match i, hi with
  | 0, hi => cases hi; exact ⟨rfl, rfl, by simp⟩
  | 1, hi => cases hi; exact ⟨rfl, rfl, by simp⟩
abbrev sA : ByteArray := ⟨#[97]⟩
abbrev sB : ByteArray := ⟨#[98]⟩
end Go.Proofs.Ytalnhbjpfnodiaa

/- far; ArenaKeeps. -/
namespace Go.Proofs.Ytalnhbjpfnodiaa
open Go.RowKit
/-- The row 'last'. -/
def LR (W : World) (g : Nat) (cs : List Nat) : Prop := W.rowIs g 22 cs.length (fun i => u64v (cs.getD i 0))
theorem LR.urow {W : World} {g n : Nat} {cs : List Nat} (h : LR W g cs) (hn : cs.length = n) : URow W (.slice (some ⟨g, 0, none⟩) n n) cs := by
  subst hn
  exact ⟨_, _, rfl, Nat.le_refl _, fun i x hi => ⟨g, 0, rfl, by
    have hin := (List.getElem?_eq_some_iff.1 hi).1
    rw [Nat.zero_add, World.rowIs.cell h hin, List.getD_eq_getElem?_getD, hi]; rfl⟩⟩
theorem LR.set {W : World} {g : Nat} {cs : List Nat} (h : LR W g cs) (a v : Nat) (ha : a < cs.length) : LR (W.setCell ⟨g, a, none⟩ (.int .u64 (v : Int))) g (cs.set a v) := by
  unfold LR
  rw [List.length_set]
  refine (World.rowIs.set h a _).congr fun i hi => ?_
  by_cases e : i = a
  · subst e
    rw [if_pos rfl, List.getD_eq_getElem?_getD, List.getElem?_set_self (by simpa using hi)]; rfl
  · rw [if_neg e, List.getD_eq_getElem?_getD, List.getD_eq_getElem?_getD, List.getElem?_set_ne (Ne.symm e)]
theorem ow_cells' {w0 W : World} {R : Nat → Prop} {p n : Nat} {cs : List Nat} {rs : List Rg} {tr : List (Nat × Nat)} (h : Ow w0 W R p cs rs tr) (hn : cs.length = n) : Calls Try.prog 32 #[.pointer (some ⟨p, 0, none⟩)] W fun e w' => ∃ g c, e = .returned (.slice (some ⟨g, 0, none⟩) n c) ∧ URow w' (.slice (some ⟨g, 0, none⟩) n c) cs ∧ Below W.heap.size W w' := by
  subst hn
  refine (ow_cells h).mono ?_
  rintro e w' ⟨g, c, rfl, _, ho, hb⟩
  exact ⟨g, c, rfl, ho.row, hb⟩
theorem URow.below' {w w' : World} {v : Value} {xs : List Nat} (h : URow w v xs) (hb : Below w.heap.size w w') : URow w' v xs := h.below hb
theorem LR.below {w w' : World} {g : Nat} {cs : List Nat} (h : LR w g cs) (hb : Below w.heap.size w w') : LR w' g cs := World.rowIs.of_block h (hb.block g (World.rowIs.lt h))
end Go.Proofs.Ytalnhbjpfnodiaa

/- ArenaLogs. -/
namespace Go.Proofs.Ytalnhbjpfnodiaa
open Go.RowKit
def ecl (e : Nat × Nat) : List Value := [.int .i32 (e.1 : Int), .int .i32 (e.2 : Int)]
theorem eflat_get (xs : List (Nat × Nat)) : ∀ i e, xs[i]? = some e → (xs.flatMap ecl)[i * 2]? = some (.int .i32 (e.1 : Int)) ∧ (xs.flatMap ecl)[i * 2 + 1]? = some (.int .i32 (e.2 : Int)) := by
  induction xs with
  | nil => intro i r h; simp at h
  | cons q rs ih =>
    intro i r h
    cases i with
    | zero => simp at h; subst h; exact ⟨rfl, rfl⟩
    | succ i =>
      have := ih i r (by simpa using h)
      rw [List.flatMap_cons, show (i + 1) * 2 = (ecl q).length + i * 2 by simp [ecl]; omega, Nat.add_assoc, List.getElem?_append_right (by omega), List.getElem?_append_right (by omega), Nat.add_sub_cancel_left, Nat.add_sub_cancel_left]
      exact this
/-- The row 'want'. -/
def WR (W : World) (B : Nat) (v : Value) (tr : List (Nat × Nat)) : Prop := W.ownsRow B 77 2 v tr.length (tr.flatMap ecl)
theorem WR.es {w : World} {B : Nat} {v : Value} {xs : List (Nat × Nat)} (h : WR w B v xs) : ES w v xs := by
  obtain ⟨q, c, rfl⟩ := own_shape h
  refine ⟨q, c, rfl, fun i e hi => ?_⟩
  have hj := (List.getElem?_eq_some_iff.1 hi).1
  obtain ⟨f0, f1⟩ := eflat_get xs i e hi
  have hlt := World.ownsRow.lt h
  rcases h.2 with ⟨h1, h2⟩ | ⟨g, cap, cur, h1, _, _, h3, _⟩
  · omega
  · cases h1
    refine ⟨g, 0, rfl, ?_⟩
    rw [Nat.zero_add]
    exact ⟨(World.ownsRow.cellAt h _ (by omega)).trans f0, (World.ownsRow.cellAt h _ (by omega)).trans f1, (hlt g rfl).2⟩
theorem WR.of {w w' : World} {B : Nat} {v : Value} {xs : List (Nat × Nat)} (h : WR w B v xs) (k : ∀ g, v.ownBlock = some g → w'.heap[g]? = w.heap[g]?) : WR w' B v xs := own_of_block h k
theorem WR.below {w w' : World} {B : Nat} {v : Value} {xs : List (Nat × Nat)} (h : WR w B v xs) (hb : Below w.heap.size w w') : WR w' B v xs := own_below h hb
/-- The blocks of 'want'. -/
def Wb (v : Value) (b : Nat) : Prop := v.ownBlock = some b
theorem ev_info : (Try.prog.info? 77).map (fun i => (i.zero, i.size, i.bytes)) = some (some (.agg #[.int .i32 0, .int .i32 0]), 2, 8) := by kernel_rfl
theorem ev_new (w : World) (e : Nat × Nat) : ∀ j u, (ecl e)[j]? = some u → (w.alloc (.cells #[.int .i32 (e.1 : Int), .int .i32 (e.2 : Int)] 77)).cell? ((⟨w.heap.size, 0, none⟩ : Addr).add j) = some u := by
  intro j u hj
  have hc := fun i => cell_blk (heap_alloc_new w (.cells #[.int .i32 (e.1 : Int), .int .i32 (e.2 : Int)] 77)) i
  rw [Addr.add_mid, hc, Nat.zero_add]
  simpa [ecl] using hj
theorem ecl_one (e : Nat × Nat) : ∀ u ∈ ecl e, u.oneCell' = true := by intro u hu; simp [ecl] at hu; rcases hu with rfl | rfl <;> rfl
theorem URow.of_block {w w' : World} {g n c : Nat} {xs : List Nat} (h : URow w (.slice (some ⟨g, 0, none⟩) n c) xs) (e : w'.heap[g]? = w.heap[g]?) : URow w' (.slice (some ⟨g, 0, none⟩) n c) xs := by
  obtain ⟨q, c', hq, hl, hx⟩ := h
  refine ⟨q, c', hq, hl, fun i x hi => ?_⟩
  obtain ⟨b, o, rfl, hc⟩ := hx i x hi
  cases hq
  exact ⟨g, 0, rfl, (World.cell?_of_block (w := w) (a := ⟨g, 0 + i, none⟩) e).trans hc⟩
theorem ow_cells2 {w0 W : World} {R : Nat → Prop} {p n : Nat} {cs : List Nat} {rs : List Rg} {tr : List (Nat × Nat)} (h : Ow w0 W R p cs rs tr) (hn : cs.length = n) : Calls Try.prog 32 #[.pointer (some ⟨p, 0, none⟩)] W fun e w' => ∃ g c, e = .returned (.slice (some ⟨g, 0, none⟩) n c) ∧ URow w' (.slice (some ⟨g, 0, none⟩) n c) cs ∧ Below W.heap.size W w' ∧ Ow w0 w' (fun b => R b ∨ b = g) p cs rs tr := by
  subst hn
  refine (ow_cells h).mono ?_
  rintro e w' ⟨g, c, rfl, hg, ho, hb⟩
  refine ⟨g, c, rfl, ho.row, hb, h.beside hb fun k hk => ?_⟩
  rcases hk with h1 | h1
  · exact ⟨Nat.lt_of_lt_of_le (h.rlt k h1) hb.size, .inl h1⟩
  · subst h1; exact ⟨ho.lt, .inr hg⟩
theorem own_cap {w : World} {B : Nat} {e : TypeId} {s n c : Nat} {q : Option Addr} {xs : List Value} (h : w.ownsRow B e s (.slice q n c) n xs) : n ≤ c := by
  rcases h.2 with ⟨h1, h2⟩ | ⟨g, cap, cur, h1, _, _, h3, _⟩
  · omega
  · cases h1; exact h3
theorem es_drop {w : World} {q : Option Addr} {N c c' j : Nat} {xs : List (Nat × Nat)} (h : ES w (.slice q N c) xs) (hN : N = xs.length) : ES w (.slice (Option.map (fun x => x.add (j * 2)) q) (N - j) c') (xs.drop j) := by
  obtain ⟨q', c2, hq, hx⟩ := h
  cases hq
  refine ⟨_, c', by rw [List.length_drop, hN], fun i e hi => ?_⟩
  rw [List.getElem?_drop] at hi
  obtain ⟨b, o, rfl, h1, h2, h3⟩ := hx (j + i) e hi
  refine ⟨b, o + j * 2, ?_, ?_, ?_, h3⟩
  · simp [Addr.add_mid]
  · rw [← h1]; congr 2; omega
  · rw [← h2]; congr 2; omega
theorem es_drop0 {w : World} {q : Option Addr} {N c j : Nat} {xs : List (Nat × Nat)} (hN : N = xs.length) (hj : N ≤ j) : ES w (.slice q (N - j) c) (xs.drop j) := by
  refine ⟨_, c, by rw [List.length_drop, hN], fun i e hi => ?_⟩
  rw [List.getElem?_drop, List.getElem?_eq_none (by omega)] at hi
  cases hi
end Go.Proofs.Ytalnhbjpfnodiaa
