/- An arena in memory. -/
import Derived.Test.YtjckkohmgalabaaA
import Derived.OwnWalk
import Derived.Maps.AppendAt
import Derived.Laws.OwnMore
import Derived.Deep.OwnRows
import Derived.StillTailTactics
namespace Go.Proofs.Ytjckkohmgalabaa
open Go.RowKit
/-- Outside the blocks F the world is as it was. -/
structure Kept (F : Nat → Prop) (w w' : World) : Prop where
  os : w'.os = w.os
  tape : w'.tape = w.tape
  output : w'.output = w.output
  size : w.heap.size ≤ w'.heap.size
  block : ∀ k, k < w.heap.size → ¬ F k → w'.heap[k]? = w.heap[k]?
theorem Kept.refl (F : Nat → Prop) (w : World) : Kept F w w := ⟨rfl, rfl, rfl, Nat.le_refl _, fun _ _ _ => rfl⟩
theorem Kept.trans {F G : Nat → Prop} {a b c : World} (h : Kept F a b) (k : Kept G b c) (e : ∀ i, G i → F i ∨ a.heap.size ≤ i) : Kept F a c :=
  ⟨k.os.trans h.os, k.tape.trans h.tape, k.output.trans h.output, Nat.le_trans h.size k.size, fun i hi hf =>
    (k.block i (Nat.lt_of_lt_of_le hi h.size) (fun hg => by rcases e i hg with h1 | h1; exact hf h1; omega)).trans (h.block i hi hf)⟩
theorem Kept.mono {F G : Nat → Prop} {a b : World} (h : Kept F a b) (e : ∀ i, i < a.heap.size → F i → G i) : Kept G a b := ⟨h.os, h.tape, h.output, h.size, fun i hi hg => h.block i hi (fun hf => hg (e i hi hf))⟩
theorem Kept.of_below {F : Nat → Prop} {a b : World} (h : Below a.heap.size a b) : Kept F a b := ⟨h.os, h.tape, h.output, h.size, fun i hi _ => h.block i hi⟩
theorem Kept.below {F : Nat → Prop} {a b : World} (h : Kept F a b) {B : Nat} (hB : B ≤ a.heap.size) (e : ∀ i, F i → B ≤ i) : Below B a b := ⟨h.os, h.tape, h.output, h.size, fun i hi => h.block i (by omega) (fun hf => by have := e i hf; omega)⟩
theorem Kept.drew {F : Nat → Prop} {a b : World} (h : Kept F a b) : Kept F a b.drew := ⟨h.os, h.tape, h.output, h.size, h.block⟩
theorem Kept.alloc {F : Nat → Prop} {a b : World} (h : Kept F a b) (o : Obj) : Kept F a (b.alloc o) :=
  ⟨h.os, h.tape, h.output, by have := h.size; simp; omega, fun i hi hf => (Below.heap_alloc b o i (Nat.lt_of_lt_of_le hi h.size)).trans (h.block i hi hf)⟩
theorem Kept.setCell {F : Nat → Prop} {a b : World} (h : Kept F a b) {p : Addr} (hp : F p.block ∨ a.heap.size ≤ p.block) (u : Value) : Kept F a (b.setCell p u) :=
  ⟨h.os, h.tape, h.output, by have := h.size; simpa [World.setCell] using this, fun i hi hf => (Below.heap_setCell b p u i (fun e => by rcases hp with h1 | h1; exact hf (e ▸ h1); omega)).trans (h.block i hi hf)⟩
theorem Kept.grown {F : Nat → Prop} {a b c : World} {row : Option Nat} (h : Kept F a b) (hg : b.grownBy c row) (hr : ∀ k, row = some k → F k ∨ a.heap.size ≤ k) : Kept F a c :=
  ⟨hg.os.trans h.os, hg.tape.trans h.tape, hg.output.trans h.output, Nat.le_trans h.size hg.size, fun i hi hf =>
    (hg.block i (Nat.lt_of_lt_of_le hi h.size) (fun e => by rcases hr i e.symm with h1 | h1; exact hf h1; omega)).trans (h.block i hi hf)⟩
theorem Kept.cell {F : Nat → Prop} {a b : World} (h : Kept F a b) {p : Addr} (hp : p.block < a.heap.size) (hf : ¬ F p.block) : b.cell? p = a.cell? p := World.cell?_of_block (w := a) (h.block _ hp hf)

/-- A region. -/
structure Rg where
  name : ByteArray
  base : Nat
  size : Nat
def rcells (r : Rg) : List Value := [.string r.name, .int .i64 (r.base : Int), .int .i64 (r.size : Int)]
def rv3 (r : Rg) : Value := .agg #[.string r.name, .int .i64 (r.base : Int), .int .i64 (r.size : Int)]
def u64v (x : Nat) : Value := .int .u64 (x : Int)
def ptrV (b : Nat) : Value := .pointer (some ⟨b, 0, none⟩)
def pk : Option (Nat × Nat) → Nat
  | none => 0
  | some (k, a) => k * 65536 + a
def pkv (tr : List (Nat × Nat)) (i : Nat) : Value := .int .u32 (pk tr[i]? : Int)
/-- Where the regions end. -/
def endR (rs : List Rg) : Nat := match rs.getLast? with | none => 0 | some r => r.base + r.size

structure ArX (w : World) (F : Nat → Prop) (p cb : Nat) (pv rv : Value) (pg : List Nat) (cs : List Nat) (rs : List Rg) (tr : List (Nat × Nat)) : Prop where
  lt : ∀ k, F k → k < w.heap.size
  blk : w.heap[p]? = some (.cells #[pv, .int .i64 (tr.length : Int), .pointer (some ⟨p, 0, none⟩), .slice (some ⟨cb, 0, none⟩) cs.length cs.length, rv] 84 (0, 0))
  fp : F p
  cells : w.rowIs cb 22 cs.length (fun i => u64v (cs.getD i 0))
  fc : F cb
  pages : w.ownsRow 0 99 1 pv pg.length (pg.map ptrV)
  fpv : ∀ k, pv.ownBlock = some k → F k
  page : ∀ j b, pg[j]? = some b → w.rowIs b 103 1024 (fun i => pkv tr (j * 1024 + i)) ∧ F b
  nodup : pg.Nodup
  room : tr.length ≤ 1024 * pg.length ∧ 1024 * pg.length ≤ tr.length + 1024
  good : ∀ e ∈ tr, 1 ≤ e.1 ∧ e.1 < 3 ∧ e.2 < cs.length
  long : tr.length ≤ 8388608
  ncs : 1 ≤ cs.length ∧ cs.length ≤ 65536
  wcs : ∀ x ∈ cs, x < 18446744073709551616
  regs : w.ownsRow 0 120 3 rv rs.length (rs.flatMap rcells)
  frv : ∀ k, rv.ownBlock = some k → F k
  nrs : rs.length ≤ 64
  wrs : ∀ r ∈ rs, r.base + r.size ≤ cs.length ∧ r.name.size ≤ 16 ∧ 1 ≤ r.size

section
variable {w w' : World} {F G : Nat → Prop} {p cb : Nat} {pv rv : Value} {pg cs : List Nat} {rs : List Rg} {tr : List (Nat × Nat)}
theorem own_of_block {b0 : Nat} {e : TypeId} {s : Nat} {v : Value} {n : Nat} {xs : List Value} (h : w.ownsRow b0 e s v n xs) (k : ∀ g, v.ownBlock = some g → w'.heap[g]? = w.heap[g]?) : w'.ownsRow b0 e s v n xs := by
  refine ⟨h.1, ?_⟩
  rcases h.2 with h1 | ⟨g, cap, cur, rfl, h1, h2, h3⟩
  · exact .inl h1
  · exact .inr ⟨g, cap, cur, rfl, h1, (k g rfl).trans h2, h3⟩
/-- The same blocks: the same arena. -/
theorem ArX.of_blocks (h : ArX w F p cb pv rv pg cs rs tr) (hs : w.heap.size ≤ w'.heap.size) (k : ∀ i, i < w.heap.size → F i → w'.heap[i]? = w.heap[i]?) : ArX w' F p cb pv rv pg cs rs tr where
  lt i hi := Nat.lt_of_lt_of_le (h.lt i hi) hs
  blk := (k p (h.lt _ h.fp) h.fp).trans h.blk
  fp := h.fp
  cells := h.cells.of_block (k cb (h.lt _ h.fc) h.fc)
  fc := h.fc
  pages := own_of_block h.pages fun g hg => k g (h.lt _ (h.fpv g hg)) (h.fpv g hg)
  fpv := h.fpv
  page j b hb := ⟨(h.page j b hb).1.of_block (k b (h.lt _ (h.page j b hb).2) (h.page j b hb).2), (h.page j b hb).2⟩
  nodup := h.nodup
  room := h.room
  good := h.good
  long := h.long
  ncs := h.ncs
  wcs := h.wcs
  regs := own_of_block h.regs fun g hg => k g (h.lt _ (h.frv g hg)) (h.frv g hg)
  frv := h.frv
  nrs := h.nrs
  wrs := h.wrs
theorem ArX.below (h : ArX w F p cb pv rv pg cs rs tr) (hb : Below w.heap.size w w') : ArX w' F p cb pv rv pg cs rs tr := h.of_blocks hb.size fun i hi _ => hb.block i hi
theorem ArX.kept (h : ArX w F p cb pv rv pg cs rs tr) (hb : Kept G w w') (e : ∀ i, F i → ¬ G i) : ArX w' F p cb pv rv pg cs rs tr := h.of_blocks hb.size fun i hi hf => hb.block i hi (e i hf)
theorem ArX.widen (h : ArX w F p cb pv rv pg cs rs tr) (e : ∀ i, F i → G i) (l : ∀ i, G i → i < w.heap.size) : ArX w G p cb pv rv pg cs rs tr :=
  { h with lt := l, fp := e _ h.fp, fc := e _ h.fc, fpv := fun k hk => e _ (h.fpv k hk), page := fun j b hb => ⟨(h.page j b hb).1, e _ (h.page j b hb).2⟩, frv := fun k hk => e _ (h.frv k hk) }
theorem cell_blk {b : Nat} {c : Array Value} {t : TypeId} (h : w.heap[b]? = some (.cells c t (0, 0))) (i : Nat) : w.cell? ⟨b, i, none⟩ = c[i]? := by simp [World.cell?, h]
theorem frozen_blk {b : Nat} {c : Array Value} {t : TypeId} (h : w.heap[b]? = some (.cells c t (0, 0))) (i : Nat) : w.frozen? ⟨b, i, none⟩ = false := by simp [World.frozen?, h]
theorem ArX.c0 (h : ArX w F p cb pv rv pg cs rs tr) : w.cell? ⟨p, 0, none⟩ = some pv := (cell_blk h.blk 0).trans rfl
theorem ArX.c1 (h : ArX w F p cb pv rv pg cs rs tr) : w.cell? ⟨p, 1, none⟩ = some (.int .i64 (tr.length : Int)) := (cell_blk h.blk 1).trans rfl
theorem ArX.c2 (h : ArX w F p cb pv rv pg cs rs tr) : w.cell? ⟨p, 2, none⟩ = some (.pointer (some ⟨p, 0, none⟩)) := (cell_blk h.blk 2).trans rfl
theorem ArX.c3 (h : ArX w F p cb pv rv pg cs rs tr) : w.cell? ⟨p, 3, none⟩ = some (.slice (some ⟨cb, 0, none⟩) cs.length cs.length) := (cell_blk h.blk 3).trans rfl
theorem ArX.c4 (h : ArX w F p cb pv rv pg cs rs tr) : w.cell? ⟨p, 4, none⟩ = some rv := (cell_blk h.blk 4).trans rfl
theorem ArX.frz (h : ArX w F p cb pv rv pg cs rs tr) (i : Nat) : w.frozen? ⟨p, i, none⟩ = false := frozen_blk h.blk i
theorem own_shape {b0 : Nat} {e : TypeId} {s : Nat} {v : Value} {n : Nat} {xs : List Value} (h : w.ownsRow b0 e s v n xs) : ∃ q c, v = .slice q n c := by
  rcases h.2 with ⟨rfl, rfl⟩ | ⟨g, cap, cur, rfl, _⟩
  · exact ⟨_, _, rfl⟩
  · exact ⟨_, _, rfl⟩
end
end Go.Proofs.Ytjckkohmgalabaa
