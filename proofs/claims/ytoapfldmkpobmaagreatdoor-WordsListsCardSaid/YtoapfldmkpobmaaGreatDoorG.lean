/- Layer 1: Quote. -/
import Derived.Test.YtoapfldmkpobmaaGreatDoorF
namespace Go.Proofs.YtoapfldmkpobmaaGreatDoor
open Go.RowKit
theorem drop_u8v (l m : List UInt8) : l.map u8v ++ m.map u8v = (l ++ m).map u8v := by rw [List.map_append]
theorem own_map {B n n' : Nat} {v : Value} {w : World} {xs ys zs : List UInt8} (h : w.ownsRow B 5 1 v n (xs.map u8v ++ ys.map u8v)) (e : xs ++ ys = zs) (hn : n = n') : w.ownsRow B 5 1 v n' (zs.map u8v) := by
  rw [← List.map_append, e, hn] at h; exact h
theorem cast_own {B n n' : Nat} {v : Value} {w : World} {xs ys : List UInt8} (h : w.ownsRow B 5 1 v n (xs.map u8v)) (hn : n = n') (hx : xs = ys) : w.ownsRow B 5 1 v n' (ys.map u8v) := by
  subst hn; subst hx; exact h
theorem AppPost.below {B n : Nat} {v : Value} {xs : List Value} {w wr w2 : World} {o : Obj} (hown : wr.ownsRow B 5 1 v n xs) (hb : Below B w wr) (hg : (wr.alloc o).grownBy w2 v.ownBlock) (hB : B ≤ wr.heap.size := by first | exact Below.size ‹_› | omega) : Below B w w2 :=
  (hb.alloc hB o).grown hg (by simp; omega) (fun k hk => (hown.lt k hk).1)
theorem own_below {B n : Nat} {v : Value} {xs : List Value} {w w1 : World} (h : w.ownsRow B 5 1 v n xs) (hb : Below w.heap.size w w1) : w1.ownsRow B 5 1 v n xs := by
  refine ⟨h.1, ?_⟩
  rcases h.2 with h1 | ⟨g, cap, cur, e, hg, hh, r⟩
  · exact .inl h1
  · refine .inr ⟨g, cap, cur, e, hg, ?_, r⟩
    have hlt := (World.ownsRow.lt h g (by rw [e]; rfl)).2
    rw [hb.block g hlt]; exact hh
end Go.Proofs.YtoapfldmkpobmaaGreatDoor
