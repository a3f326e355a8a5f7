/- Find, Regions. -/
import Derived.Test.YtjckkohmgalabaaK
namespace Go.Proofs.Ytjckkohmgalabaa
open Go.RowKit
def rgV (r : Rg) : Value := .agg #[.string r.name, .int .i64 (r.base : Int), .int .i64 (r.size : Int)]
def rg0 : Rg := ⟨⟨#[]⟩, 0, 0⟩
section
variable {w : World} {F : Nat → Prop} {p cb : Nat} {pv rv : Value} {pg cs : List Nat} {rs : List Rg} {tr : List (Nat × Nat)}
abbrev zeroR : Obj := .cells #[.string ⟨#[]⟩, .int .i64 0, .int .i64 0] 120
def FiPost (w : World) (r : Rg) (err : Int) (e : Ending) (w' : World) : Prop := e = .returned (.tuple #[rgV r, .int .i64 err]) ∧ Below w.heap.size w w'
/-- Regions in memory. -/
def RS (W : World) (v : Value) (rs : List Rg) : Prop :=
  ∃ q c, v = .slice q rs.length c ∧ ∀ i r, rs[i]? = some r → ∃ b o, q = some ⟨b, o, none⟩ ∧ W.cell? ⟨b, o + i * 3, none⟩ = some (.string r.name) ∧ W.cell? ⟨b, o + i * 3 + 1, none⟩ = some (.int .i64 (r.base : Int)) ∧ W.cell? ⟨b, o + i * 3 + 2, none⟩ = some (.int .i64 (r.size : Int)) ∧ b < W.heap.size
theorem RS.below {w w' : World} {v : Value} {rs : List Rg} (h : RS w v rs) (hb : Below w.heap.size w w') : RS w' v rs := by
  obtain ⟨q, c, rfl, hx⟩ := h
  refine ⟨q, c, rfl, fun i r hi => ?_⟩
  obtain ⟨b, o, rfl, h1, h2, h3, h4⟩ := hx i r hi
  exact ⟨b, o, rfl, (hb.cell (p := ⟨b, o + i * 3, none⟩) h4).trans h1, (hb.cell (p := ⟨b, o + i * 3 + 1, none⟩) h4).trans h2, (hb.cell (p := ⟨b, o + i * 3 + 2, none⟩) h4).trans h3, Nat.lt_of_lt_of_le h4 hb.size⟩
theorem RS.own {w : World} {B : Nat} {v : Value} {rs : List Rg} (h : w.ownsRow B 120 3 v rs.length (rs.flatMap rcells)) : RS w v rs := by
  obtain ⟨q, c, rfl⟩ := own_shape h
  refine ⟨q, c, rfl, fun i r hi => ?_⟩
  have hj := (List.getElem?_eq_some_iff.1 hi).1
  obtain ⟨f0, f1, f2⟩ := rflat_get rs i r hi
  have hlt := World.ownsRow.lt h
  rcases h.2 with ⟨h1, h2⟩ | ⟨g, cap, cur, h1, _, _, h3, _⟩
  · omega
  · cases h1
    refine ⟨g, 0, rfl, ?_⟩
    rw [Nat.zero_add]
    exact ⟨(World.ownsRow.cellAt h _ (by omega)).trans f0, (World.ownsRow.cellAt h _ (by omega)).trans f1, (World.ownsRow.cellAt h _ (by omega)).trans f2, (hlt g rfl).2⟩
def RsPost (w : World) (rs : List Rg) (e : Ending) (w' : World) : Prop := ∃ v, e = .returned v ∧ RS w' v rs ∧ Below w.heap.size w w'
theorem own_below {w w' : World} {B : Nat} {e : TypeId} {s n : Nat} {v : Value} {xs : List Value} (h : w.ownsRow B e s v n xs) (hb : Below w.heap.size w w') : w'.ownsRow B e s v n xs :=
  own_of_block h fun g hg => hb.block g ((World.ownsRow.lt h g hg).2)
end
end Go.Proofs.Ytjckkohmgalabaa
