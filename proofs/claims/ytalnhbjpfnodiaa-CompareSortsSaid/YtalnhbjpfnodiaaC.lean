/- Names (program and reference), strings.Clone. -/
import Derived.Test.YtalnhbjpfnodiaaRows
import Derived.Test.YtalnhbjpfnodiaaPlain
import Derived.WalkKit
import Derived.WalkSpells
import Derived.WalkLawsBesides
import Derived.Lib.Hide
import Derived.Outline
import Derived.Test.YtalnhbjpfnodiaaChecked
import Derived.OwnWalk
import Derived.Maps.AppendAt
import Derived.Laws.OwnMore
import Derived.Deep.OwnRows
import Derived.StillTailTactics
import Derived.Deep.QuietTactic
import Derived.IntWalk
import Derived.BigQuiet
import Derived.LaidEqlPtr
namespace Go.Proofs.Ytalnhbjpfnodiaa
open Go.RowKit
theorem ret_int {k : IntKind} {a b : Int} (h : a = b) : Ending.returned (.int k a) = .returned (.int k b) := by rw [h]
theorem ret_bool {a b : Bool} (h : a = b) : Ending.returned (.bool a) = .returned (.bool b) := by rw [h]

end Go.Proofs.Ytalnhbjpfnodiaa

/- An arena in memory. -/
namespace Go.Proofs.Ytalnhbjpfnodiaa
open Go.RowKit
/-- Outside the blocks F the world is as it was. -/
structure Kept (F : Nat → Prop) (w w' : World) : Prop where
  os : w'.os = w.os
  tape : w'.tape = w.tape
  output : w'.output = w.output
  size : w.heap.size ≤ w'.heap.size
  block : ∀ k, k < w.heap.size → ¬ F k → w'.heap[k]? = w.heap[k]?
theorem Kept.refl (F : Nat → Prop) (w : World) : Kept F w w := ⟨rfl, rfl, rfl, Nat.le_refl _, fun _ _ _ => rfl⟩
theorem Kept.trans {F G : Nat → Prop} {a b c : World} (h : Kept F a b) (k : Kept G b c) (e : ∀ i, G i → F i ∨ a.heap.size ≤ i) : Kept F a c :=
  ⟨k.os.trans h.os, k.tape.trans h.tape, k.output.trans h.output, Nat.le_trans h.size k.size, fun i hi hf =>
    (k.block i (Nat.lt_of_lt_of_le hi h.size) (fun hg => by rcases e i hg with h1 | h1; exact hf h1; omega)).trans (h.block i hi hf)⟩
theorem Kept.mono {F G : Nat → Prop} {a b : World} (h : Kept F a b) (e : ∀ i, i < a.heap.size → F i → G i) : Kept G a b := ⟨h.os, h.tape, h.output, h.size, fun i hi hg => h.block i hi (fun hf => hg (e i hi hf))⟩
theorem Kept.of_below {F : Nat → Prop} {a b : World} (h : Below a.heap.size a b) : Kept F a b := ⟨h.os, h.tape, h.output, h.size, fun i hi _ => h.block i hi⟩
theorem Kept.below {F : Nat → Prop} {a b : World} (h : Kept F a b) {B : Nat} (hB : B ≤ a.heap.size) (e : ∀ i, F i → B ≤ i) : Below B a b := ⟨h.os, h.tape, h.output, h.size, fun i hi => h.block i (by omega) (fun hf => by have := e i hf; omega)⟩
theorem Kept.drew {F : Nat → Prop} {a b : World} (h : Kept F a b) : Kept F a b.drew := ⟨h.os, h.tape, h.output, h.size, h.block⟩
theorem Kept.alloc {F : Nat → Prop} {a b : World} (h : Kept F a b) (o : Obj) : Kept F a (b.alloc o) :=
  ⟨h.os, h.tape, h.output, by have := h.size; simp; omega, fun i hi hf => (Below.heap_alloc b o i (Nat.lt_of_lt_of_le hi h.size)).trans (h.block i hi hf)⟩
theorem Kept.setCell {F : Nat → Prop} {a b : World} (h : Kept F a b) {p : Addr} (hp : F p.block ∨ a.heap.size ≤ p.block) (u : Value) : Kept F a (b.setCell p u) :=
  ⟨h.os, h.tape, h.output, by have := h.size; simpa [World.setCell] using this, fun i hi hf => (Below.heap_setCell b p u i (fun e => by rcases hp with h1 | h1; exact hf (e ▸ h1); omega)).trans (h.block i hi hf)⟩
theorem Kept.grown {F : Nat → Prop} {a b c : World} {row : Option Nat} (h : Kept F a b) (hg : b.grownBy c row) (hr : ∀ k, row = some k → F k ∨ a.heap.size ≤ k) : Kept F a c :=
  ⟨hg.os.trans h.os, hg.tape.trans h.tape, hg.output.trans h.output, Nat.le_trans h.size hg.size, fun i hi hf =>
    (hg.block i (Nat.lt_of_lt_of_le hi h.size) (fun e => by rcases hr i e.symm with h1 | h1; exact hf h1; omega)).trans (h.block i hi hf)⟩
theorem Kept.cell {F : Nat → Prop} {a b : World} (h : Kept F a b) {p : Addr} (hp : p.block < a.heap.size) (hf : ¬ F p.block) : b.cell? p = a.cell? p := World.cell?_of_block (w := a) (h.block _ hp hf)

/-- A region. -/
structure Rg where
  name : ByteArray
  base : Nat
  size : Nat
def rcells (r : Rg) : List Value := [.string r.name, .int .i64 (r.base : Int), .int .i64 (r.size : Int)]
def rv3 (r : Rg) : Value := .agg #[.string r.name, .int .i64 (r.base : Int), .int .i64 (r.size : Int)]
def u64v (x : Nat) : Value := .int .u64 (x : Int)
def ptrV (b : Nat) : Value := .pointer (some ⟨b, 0, none⟩)
def pk : Option (Nat × Nat) → Nat
  | none => 0
  | some (k, a) => k * 65536 + a
def pkv (tr : List (Nat × Nat)) (i : Nat) : Value := .int .u32 (pk tr[i]? : Int)
/-- Where the regions end. -/
def endR (rs : List Rg) : Nat := match rs.getLast? with | none => 0 | some r => r.base + r.size

structure ArX (w : World) (F : Nat → Prop) (p cb : Nat) (pv rv : Value) (pg : List Nat) (cs : List Nat) (rs : List Rg) (tr : List (Nat × Nat)) : Prop where
  lt : ∀ k, F k → k < w.heap.size
  blk : w.heap[p]? = some (.cells #[pv, .int .i64 (tr.length : Int), .pointer (some ⟨p, 0, none⟩), .slice (some ⟨cb, 0, none⟩) cs.length cs.length, rv] 84 (0, 0))
  fp : F p
  cells : w.rowIs cb 22 cs.length (fun i => u64v (cs.getD i 0))
  fc : F cb
  pages : w.ownsRow 0 102 1 pv pg.length (pg.map ptrV)
  fpv : ∀ k, pv.ownBlock = some k → F k
  page : ∀ j b, pg[j]? = some b → w.rowIs b 115 1024 (fun i => pkv tr (j * 1024 + i)) ∧ F b
  nodup : pg.Nodup
  room : tr.length ≤ 1024 * pg.length ∧ 1024 * pg.length ≤ tr.length + 1024
  good : ∀ e ∈ tr, 1 ≤ e.1 ∧ e.1 < 3 ∧ e.2 < cs.length
  long : tr.length ≤ 8388608
  ncs : 1 ≤ cs.length ∧ cs.length ≤ 65536
  wcs : ∀ x ∈ cs, x < 18446744073709551616
  regs : w.ownsRow 0 137 3 rv rs.length (rs.flatMap rcells)
  frv : ∀ k, rv.ownBlock = some k → F k
  nrs : rs.length ≤ 64
  wrs : ∀ r ∈ rs, r.base + r.size ≤ cs.length ∧ r.name.size ≤ 16 ∧ 1 ≤ r.size

section
variable {w w' : World} {F G : Nat → Prop} {p cb : Nat} {pv rv : Value} {pg cs : List Nat} {rs : List Rg} {tr : List (Nat × Nat)}
theorem own_of_block {b0 : Nat} {e : TypeId} {s : Nat} {v : Value} {n : Nat} {xs : List Value} (h : w.ownsRow b0 e s v n xs) (k : ∀ g, v.ownBlock = some g → w'.heap[g]? = w.heap[g]?) : w'.ownsRow b0 e s v n xs := by
  refine ⟨h.1, ?_⟩
  rcases h.2 with h1 | ⟨g, cap, cur, rfl, h1, h2, h3⟩
  · exact .inl h1
  · exact .inr ⟨g, cap, cur, rfl, h1, (k g rfl).trans h2, h3⟩
/-- The same blocks: the same arena. -/
theorem ArX.of_blocks (h : ArX w F p cb pv rv pg cs rs tr) (hs : w.heap.size ≤ w'.heap.size) (k : ∀ i, i < w.heap.size → F i → w'.heap[i]? = w.heap[i]?) : ArX w' F p cb pv rv pg cs rs tr where
  lt i hi := Nat.lt_of_lt_of_le (h.lt i hi) hs
  blk := (k p (h.lt _ h.fp) h.fp).trans h.blk
  fp := h.fp
  cells := h.cells.of_block (k cb (h.lt _ h.fc) h.fc)
  fc := h.fc
  pages := own_of_block h.pages fun g hg => k g (h.lt _ (h.fpv g hg)) (h.fpv g hg)
  fpv := h.fpv
  page j b hb := ⟨(h.page j b hb).1.of_block (k b (h.lt _ (h.page j b hb).2) (h.page j b hb).2), (h.page j b hb).2⟩
  nodup := h.nodup
  room := h.room
  good := h.good
  long := h.long
  ncs := h.ncs
  wcs := h.wcs
  regs := own_of_block h.regs fun g hg => k g (h.lt _ (h.frv g hg)) (h.frv g hg)
  frv := h.frv
  nrs := h.nrs
  wrs := h.wrs
theorem ArX.below (h : ArX w F p cb pv rv pg cs rs tr) (hb : Below w.heap.size w w') : ArX w' F p cb pv rv pg cs rs tr := h.of_blocks hb.size fun i hi _ => hb.block i hi
theorem ArX.kept (h : ArX w F p cb pv rv pg cs rs tr) (hb : Kept G w w') (e : ∀ i, F i → ¬ G i) : ArX w' F p cb pv rv pg cs rs tr := h.of_blocks hb.size fun i hi hf => hb.block i hi (e i hf)
theorem ArX.widen (h : ArX w F p cb pv rv pg cs rs tr) (e : ∀ i, F i → G i) (l : ∀ i, G i → i < w.heap.size) : ArX w G p cb pv rv pg cs rs tr :=
  { h with lt := l, fp := e _ h.fp, fc := e _ h.fc, fpv := fun k hk => e _ (h.fpv k hk), page := fun j b hb => ⟨(h.page j b hb).1, e _ (h.page j b hb).2⟩, frv := fun k hk => e _ (h.frv k hk) }
theorem cell_blk {b : Nat} {c : Array Value} {t : TypeId} (h : w.heap[b]? = some (.cells c t (0, 0))) (i : Nat) : w.cell? ⟨b, i, none⟩ = c[i]? := by simp [World.cell?, h]
theorem frozen_blk {b : Nat} {c : Array Value} {t : TypeId} (h : w.heap[b]? = some (.cells c t (0, 0))) (i : Nat) : w.frozen? ⟨b, i, none⟩ = false := by simp [World.frozen?, h]
theorem ArX.c0 (h : ArX w F p cb pv rv pg cs rs tr) : w.cell? ⟨p, 0, none⟩ = some pv := (cell_blk h.blk 0).trans rfl
theorem ArX.c1 (h : ArX w F p cb pv rv pg cs rs tr) : w.cell? ⟨p, 1, none⟩ = some (.int .i64 (tr.length : Int)) := (cell_blk h.blk 1).trans rfl
theorem ArX.c2 (h : ArX w F p cb pv rv pg cs rs tr) : w.cell? ⟨p, 2, none⟩ = some (.pointer (some ⟨p, 0, none⟩)) := (cell_blk h.blk 2).trans rfl
theorem ArX.c3 (h : ArX w F p cb pv rv pg cs rs tr) : w.cell? ⟨p, 3, none⟩ = some (.slice (some ⟨cb, 0, none⟩) cs.length cs.length) := (cell_blk h.blk 3).trans rfl
theorem ArX.c4 (h : ArX w F p cb pv rv pg cs rs tr) : w.cell? ⟨p, 4, none⟩ = some rv := (cell_blk h.blk 4).trans rfl
theorem ArX.frz (h : ArX w F p cb pv rv pg cs rs tr) (i : Nat) : w.frozen? ⟨p, i, none⟩ = false := frozen_blk h.blk i
theorem own_shape {b0 : Nat} {e : TypeId} {s : Nat} {v : Value} {n : Nat} {xs : List Value} (h : w.ownsRow b0 e s v n xs) : ∃ q c, v = .slice q n c := by
  rcases h.2 with ⟨rfl, rfl⟩ | ⟨g, cap, cur, rfl, _⟩
  · exact ⟨_, _, rfl⟩
  · exact ⟨_, _, rfl⟩
end
end Go.Proofs.Ytalnhbjpfnodiaa

/- New, valid, Steps, left, Has, Room. -/
namespace Go.Proofs.Ytalnhbjpfnodiaa
open Go.RowKit
def Ar (w : World) (F : Nat → Prop) (p : Nat) (cs : List Nat) (rs : List Rg) (tr : List (Nat × Nat)) : Prop := ∃ cb pv rv pg, ArX w F p cb pv rv pg cs rs tr
theorem Ar.below {w w' : World} {F : Nat → Prop} {p : Nat} {cs : List Nat} {rs : List Rg} {tr : List (Nat × Nat)} (h : Ar w F p cs rs tr) (hb : Below w.heap.size w w') : Ar w' F p cs rs tr := by
  obtain ⟨a, b, c, d, h⟩ := h; exact ⟨a, b, c, d, h.below hb⟩
theorem Ar.kept {w w' : World} {F G : Nat → Prop} {p : Nat} {cs : List Nat} {rs : List Rg} {tr : List (Nat × Nat)} (h : Ar w F p cs rs tr) (hb : Kept G w w') (e : ∀ i, F i → ¬ G i) : Ar w' F p cs rs tr := by
  obtain ⟨a, b, c, d, h⟩ := h; exact ⟨a, b, c, d, h.kept hb e⟩
theorem u64_info : (Try.prog.info? 22).map (fun i => (i.zero, i.size, i.bytes)) = some (some (.int .u64 0), 1, 8) := by kernel_rfl
theorem getD_rep (n i : Nat) : (List.replicate n 0).getD i 0 = 0 := by
  rw [List.getD_eq_getElem?_getD]
  by_cases h : i < n
  · rw [List.getElem?_replicate, if_pos h]; rfl
  · rw [List.getElem?_replicate, if_neg h]; rfl
/-- What New leaves. -/
theorem new_blocks (w : World) (n : Nat) (h1 : 1 ≤ n) (h2 : n ≤ 65536) :
    ArX ((w.alloc (.cells (madeCells #[.int .u64 0] n) 22)).alloc (.cells #[.slice none 0 0, .int .i64 0, .pointer (some ⟨w.heap.size + 1, 0, none⟩), .slice (some ⟨w.heap.size, 0, none⟩) n n, .slice none 0 0] 84))
      (fun k => k = w.heap.size ∨ k = w.heap.size + 1) (w.heap.size + 1) w.heap.size (.slice none 0 0) (.slice none 0 0) [] (List.replicate n 0) [] [] where
  lt k hk := by simp; omega
  blk := by
    have hs : (w.alloc (.cells (madeCells #[.int .u64 0] n) 22)).heap.size = w.heap.size + 1 := by simp
    rw [List.length_replicate]
    have := heap_alloc_new (w.alloc (.cells (madeCells #[.int .u64 0] n) 22)) (.cells #[.slice none 0 0, .int .i64 0, .pointer (some ⟨w.heap.size + 1, 0, none⟩), .slice (some ⟨w.heap.size, 0, none⟩) n n, .slice none 0 0] 84)
    rw [hs] at this
    exact this
  fp := .inr rfl
  cells := by
    rw [List.length_replicate]
    exact ((World.rowIs_made w (.int .u64 0) n 22).alloc _).congr fun i _ => by rw [getD_rep]; rfl
  fc := .inl rfl
  pages := World.ownsRow_nil _ _ _ _
  fpv k hk := by cases hk
  page j b hb := by simp at hb
  nodup := List.nodup_nil
  room := by simp
  good e he := by cases he
  long := by simp
  ncs := by rw [List.length_replicate]; exact ⟨h1, h2⟩
  wcs x hx := by rw [(List.mem_replicate.1 hx).2]; decide
  regs := World.ownsRow_nil _ _ _ _
  frv k hk := by cases hk
  nrs := by simp
  wrs r hr := by cases hr
def NewPost (w : World) (n : Nat) (e : Ending) (w' : World) : Prop :=
  ∃ p F, e = .returned (.tuple #[ptrV p, .int .i64 0]) ∧ Ar w' F p (List.replicate n 0) [] [] ∧ Below w.heap.size w w' ∧ ∀ k, F k → w.heap.size ≤ k
theorem new_any (n : Nat) (w : World) (h1 : 1 ≤ n) (h2 : n ≤ 65536) : Calls Try.prog 41 #[.int .i64 (n : Int)] w (NewPost w n) := by
  have hmk := run_make_row' (P := Try.prog) 27 22 (.int .u64 0) 8 Try.underlying27 u64_info rfl .i64 .i64 n (by omega) (by omega)
  have t1 : decide ((n : Int) < 1) = false := decide_eq_false (by omega)
  have t2 : decide ((65536 : Int) < (n : Int)) = false := decide_eq_false (by omega)
  have HB := Lib.hid (new_blocks w n h1 h2)
  go_enter Try.func41, Try.ntmps41
  go_wp2
  go_ret2
  refine ⟨w.heap.size + 1, _, rfl, ⟨_, _, _, _, HB.out⟩, ((Below.refl _ w).alloc (Nat.le_refl _) _).alloc (by simp) _, fun k hk => by omega⟩
theorem new_bad (n : Int) (w : World) (h : n < 1 ∨ 65536 < n) : Calls Try.prog 41 #[.int .i64 n] w fun e w' => e = .returned (.tuple #[.pointer none, .int .i64 7]) ∧ w = w' := by
  by_cases h1 : n < 1
  · have t1 : decide (n < 1) = true := decide_eq_true h1
    go_enter Try.func41, Try.ntmps41
    go_wp2
    go_ret2
    exact ⟨rfl, rfl⟩
  · have t1 : decide (n < 1) = false := decide_eq_false h1
    have t2 : decide ((65536 : Int) < n) = true := decide_eq_true (by omega)
    go_enter Try.func41, Try.ntmps41
    go_wp2
    go_ret2
    exact ⟨rfl, rfl⟩
section
variable {w : World} {F : Nat → Prop} {p cb : Nat} {pv rv : Value} {pg cs : List Nat} {rs : List Rg} {tr : List (Nat × Nat)}
theorem ar_info : (Try.prog.info? 84).isSome = true := by kernel_rfl
theorem valid_any (h : ArX w F p cb pv rv pg cs rs tr) : Calls Try.prog 61 #[.pointer (some ⟨p, 0, none⟩)] w fun e w' => e = .returned (.bool true) ∧ w = w' := by
  have c2 := h.c2
  have hq : ∀ W : World, (binOp .eql 30 (.pointer (some ⟨p, 0, none⟩)) (.pointer (some ⟨p, 0, none⟩))).run Try.prog W = .ok (.bool true) W := fun W => by
    obtain ⟨i, hi⟩ := Option.isSome_iff_exists.1 ar_info
    exact run_eql_ptr_same W _ Try.underlying30 hi
  go_enter Try.func61, Try.ntmps61
  go_wp2
  go_ret
  exact ⟨rfl, rfl⟩
theorem left_any (h : ArX w F p cb pv rv pg cs rs tr) : Calls Try.prog 75 #[.pointer (some ⟨p, 0, none⟩)] w fun e w' => e = .returned (.int .i64 (8388608 - (tr.length : Int))) ∧ w = w' := by
  have c1 := h.c1
  have hl := h.long
  go_enter Try.func75, Try.ntmps75
  go_wp2
  go_ret
  exact ⟨rfl, rfl⟩
theorem steps_any (h : ArX w F p cb pv rv pg cs rs tr) : Calls Try.prog 34 #[.pointer (some ⟨p, 0, none⟩)] w fun e w' => e = .returned (.int .i64 (tr.length : Int)) ∧ w = w' := by
  have c1 := h.c1
  have HV := Lib.hid (valid_any h)
  go_enter Try.func34, Try.ntmps34
  go_wp2_with (go_at_call 61; refine HV.out.mono ?_; rintro e w' ⟨rfl, rfl⟩)
  go_ret
  exact ⟨rfl, rfl⟩
/-- What Has and Room return. -/
def hasE (n : Nat) (from_ k : Int) : Int := if k < 0 ∨ from_ < 0 ∨ (n : Int) < from_ ∨ (n : Int) - from_ < k then 7 else 0
def roomE (m : Nat) (k : Int) : Int := if k < 0 then 7 else if 8388608 - (m : Int) < k then 3 else 0
theorem has_any (h : ArX w F p cb pv rv pg cs rs tr) (a b : Int) (ha : -9223372036854775808 ≤ a ∧ a ≤ 9223372036854775807) : Calls Try.prog 59 #[.pointer (some ⟨p, 0, none⟩), .int .i64 a, .int .i64 b] w fun e w' => e = .returned (.int .i64 (hasE cs.length a b)) ∧ w = w' := by
  have c3 := h.c3
  have hn := h.ncs
  have HV := Lib.hid (valid_any h)
  generalize cs.length = n at *
  by_cases h1 : b < 0
  · have t1 : decide (b < 0) = true := decide_eq_true h1
    have H := Lib.hid (show hasE n a b = 7 from if_pos (.inl h1))
    clear h1
    go_enter Try.func59, Try.ntmps59
    go_wp2_with (go_at_call 61; refine HV.out.mono ?_; rintro e w' ⟨rfl, rfl⟩)
    go_ret
    exact ⟨ret_int H.out.symm, rfl⟩
  have t1 : decide (b < 0) = false := decide_eq_false h1
  by_cases h2 : a < 0
  · have t2 : decide (a < 0) = true := decide_eq_true h2
    have H := Lib.hid (show hasE n a b = 7 from if_pos (.inr (.inl h2)))
    clear h1 h2
    go_enter Try.func59, Try.ntmps59
    go_wp2_with (go_at_call 61; refine HV.out.mono ?_; rintro e w' ⟨rfl, rfl⟩)
    go_ret
    exact ⟨ret_int H.out.symm, rfl⟩
  have t2 : decide (a < 0) = false := decide_eq_false h2
  by_cases h3 : (n : Int) < a
  · have t3 : decide ((n : Int) < a) = true := decide_eq_true h3
    have H := Lib.hid (show hasE n a b = 7 from if_pos (.inr (.inr (.inl h3))))
    clear h1 h2 h3
    go_enter Try.func59, Try.ntmps59
    go_wp2_with (go_at_call 61; refine HV.out.mono ?_; rintro e w' ⟨rfl, rfl⟩)
    go_ret
    exact ⟨ret_int H.out.symm, rfl⟩
  have t3 : decide ((n : Int) < a) = false := decide_eq_false h3
  by_cases h4 : (n : Int) - a < b
  · have t4 : decide ((n : Int) - a < b) = true := decide_eq_true h4
    have H := Lib.hid (show hasE n a b = 7 from if_pos (.inr (.inr (.inr h4))))
    have b1 : -9223372036854775808 ≤ (n : Int) - a := by omega
    have b2 : (n : Int) - a ≤ 9223372036854775807 := by omega
    clear h1 h2 h3 h4
    go_enter Try.func59, Try.ntmps59
    go_wp2_with (go_at_call 61; refine HV.out.mono ?_; rintro e w' ⟨rfl, rfl⟩)
    go_ret
    exact ⟨ret_int H.out.symm, rfl⟩
  have t4 : decide ((n : Int) - a < b) = false := decide_eq_false h4
  have H := Lib.hid (show hasE n a b = 0 from if_neg (by omega))
  have b1 : -9223372036854775808 ≤ (n : Int) - a := by omega
  have b2 : (n : Int) - a ≤ 9223372036854775807 := by omega
  clear h1 h2 h3 h4
  go_enter Try.func59, Try.ntmps59
  go_wp2_with (go_at_call 61; refine HV.out.mono ?_; rintro e w' ⟨rfl, rfl⟩)
  go_ret
  exact ⟨ret_int H.out.symm, rfl⟩
theorem room_any (h : ArX w F p cb pv rv pg cs rs tr) (k : Int) : Calls Try.prog 55 #[.pointer (some ⟨p, 0, none⟩), .int .i64 k] w fun e w' => e = .returned (.int .i64 (roomE tr.length k)) ∧ w = w' := by
  have HV := Lib.hid (valid_any h)
  have HL := Lib.hid (left_any h)
  have hl := h.long
  clear h
  generalize tr.length = n at *
  by_cases h1 : k < 0
  · have t1 : decide (k < 0) = true := decide_eq_true h1
    have H := Lib.hid (show roomE n k = 7 from if_pos h1)
    clear h1
    go_enter Try.func55, Try.ntmps55
    go_wp2_with (go_at_call 61; refine HV.out.mono ?_; rintro e w' ⟨rfl, rfl⟩)
    go_ret
    exact ⟨ret_int H.out.symm, rfl⟩
  have t1 : decide (k < 0) = false := decide_eq_false h1
  by_cases h2 : 8388608 - (n : Int) < k
  · have t2 : decide (8388608 - (n : Int) < k) = true := decide_eq_true h2
    have H := Lib.hid (show roomE n k = 3 by unfold roomE; rw [if_neg h1, if_pos h2])
    clear h1 h2
    go_enter Try.func55, Try.ntmps55
    go_wp2_with (first | (go_at_call 61; refine HV.out.mono ?_; rintro e w' ⟨rfl, rfl⟩) | (go_at_call 75; refine HL.out.mono ?_; rintro e w' ⟨rfl, rfl⟩))
    go_ret
    exact ⟨ret_int H.out.symm, rfl⟩
  have t2 : decide (8388608 - (n : Int) < k) = false := decide_eq_false h2
  have H := Lib.hid (show roomE n k = 0 by unfold roomE; rw [if_neg h1, if_neg h2])
  clear h1 h2
  go_enter Try.func55, Try.ntmps55
  go_wp2_with (first | (go_at_call 61; refine HV.out.mono ?_; rintro e w' ⟨rfl, rfl⟩) | (go_at_call 75; refine HL.out.mono ?_; rintro e w' ⟨rfl, rfl⟩))
  go_ret
  exact ⟨ret_int H.out.symm, rfl⟩
end
end Go.Proofs.Ytalnhbjpfnodiaa
