/- What CompareSorts asks of the sorted table: plain facts, and what its second loop keeps. -/
import Derived.Test.YtalnhbjpfnodiaaYy
import Derived.Test.YtalnhbjpfnodiaaYw
import Derived.Test.YtalnhbjpfnodiaaYzt
import Derived.Deep.QuietTactic
namespace Go.Proofs.Ytalnhbjpfnodiaa
open Go.RowKit
/-- The good calls. -/
structure Gd (xs : List Nat) (l a N Y : Nat) : Prop where
  hl : l = xs.length
  hw : Wf xs
  l2 : l ≤ 200
  n2 : 2 ≤ N ∧ N ≤ 64
  y2 : 1 ≤ Y ∧ Y ≤ 16
  bnd : a + Y * N ≤ l
  b64 : Y * N ≤ 64
theorem Gd.at {xs : List Nat} {l a N Y : Nat} (h : Gd xs l a N Y) {i : Nat} (hi : i < Y) : i * N + N ≤ Y * N ∧ a + i * N + N ≤ l := by
  have h1 := mul_lt_row (N := N) hi
  have h2 := h.bnd
  exact ⟨h1, by omega⟩
structure Srt (own : List Nat) (l a N Y : Nat) (C : List Nat) (f key : Nat → Nat) : Prop where
  hC : C.length = l
  ho : own.length = l
  rel : Rel own a N Y C f
  n2 : 2 ≤ N ∧ N ≤ 64
  y2 : 1 ≤ Y ∧ Y ≤ 16
  bnd : a + Y * N ≤ l
  lt : ∀ i, i < Y → f i < Y
  inj : ∀ s t, s < Y → t < Y → f s = f t → s = t
  asc : ∀ i, i + 1 < Y → ll key (f i) (f (i + 1))
  two : ∀ b, b < Y → own.getD (a + b * N + 1) 0 = b
  one : ∀ b, own.getD (a + b * N) 0 = key b
  sm : l ≤ 200
theorem srt_ex {xs : List Nat} {l a N Y qq : Nat} (gd : Gd xs l a N Y) (hq : 1 ≤ qq ∧ qq ≤ 6) : ∃ own C f key, own = owF xs a N qq Y ∧ C = soC a N (netK (Y - 1)) own ∧ Srt own l a N Y C f key ∧ Wf own := by
  obtain ⟨hl, hw, l2, n2, y2, bnd, b64⟩ := gd
  have ho : (owF xs a N qq Y).length = l := by rw [owF_len]; exact hl.symm
  have hwo : Wf (owF xs a N qq Y) := owF_w hw hq Y y2.2
  obtain ⟨o, hoo⟩ : ∃ o, o = owF xs a N qq Y := ⟨_, rfl⟩
  have h2 := owF_two (cs := xs) (X := a) (N := N) (q := qq) (Y := Y) n2.1 (by omega) Y (Nat.le_refl _)
  rw [← hoo] at ho hwo h2
  obtain ⟨b1, b2⟩ := soF_ok (fun b => o.getD (a + b * N) 0) y2.1
  refine ⟨o, _, soF (fun b => o.getD (a + b * N) 0) Y, _, hoo, rfl, ⟨?_, ho, ?_, n2, y2, bnd, b1.lt, b1.inj, fun i hi => b2 _ _ (by omega) hi, h2, fun b => rfl, l2⟩, hwo⟩
  · rw [soC_len]; exact ho
  · exact Rel.all (by omega) (by omega) hwo (netK (Y - 1)) o (fun t => t) (fun i hi => by have := netK_lt _ _ hi; omega) hwo (Rel.id o a N Y)
section
variable {own C : List Nat} {l a N Y : Nat} {f key : Nat → Nat}
theorem Srt.c0 (h : Srt own l a N Y C f key) {i : Nat} (hi : i < Y) : C.getD (a + i * N) 0 = key (f i) := by
  have := h.rel.row i 0 hi (by have := h.n2; omega)
  rw [Nat.add_zero, Nat.add_zero] at this
  rw [this, h.one]
theorem Srt.c1 (h : Srt own l a N Y C f key) {i : Nat} (hi : i < Y) : C.getD (a + i * N + 1) 0 = f i := by
  rw [h.rel.row i 1 hi (by have := h.n2; omega), h.two _ (h.lt i hi)]
theorem Srt.at (h : Srt own l a N Y C f key) {i : Nat} (hi : i < Y) : a + i * N + N ≤ l ∧ a + f i * N + N ≤ l := by
  have h1 := mul_lt_row (N := N) hi
  have h2 := mul_lt_row (N := N) (h.lt i hi)
  have h3 := h.bnd
  exact ⟨by omega, by omega⟩
theorem Srt.rows (h : Srt own l a N Y C f key) {i : Nat} (hi : i < Y) : (C.drop (a + i * N)).take N = (own.drop (a + f i * N)).take N :=
  h.rel.rows (by rw [h.ho]; exact h.bnd) hi (h.lt i hi)
end
/-- What is kept by the second loop. -/
def So2 (W4 : World) (tb : TypeId) (Y : Nat) (f : Nat → Nat) (i : Nat) (W : World) : Prop := W.rowIs W4.heap.size tb Y (fun j => .bool (metB f i j)) ∧ Below W4.heap.size W4 W
theorem So2.first (W4 : World) (tb : TypeId) (Y : Nat) (f : Nat → Nat) : So2 W4 tb Y f 0 (W4.alloc (.cells (madeCells #[.bool false] Y) tb)) :=
  ⟨(World.rowIs_made W4 (.bool false) Y tb).congr fun _ _ => rfl, below_alloc W4 _⟩
section
variable {W4 W W' : World} {tb : TypeId} {Y i : Nat} {f : Nat → Nat}
theorem So2.put (h : So2 W4 tb Y f i W) : So2 W4 tb Y f (i + 1) (W.setCell ⟨W4.heap.size, f i, none⟩ (.bool true)) := by
  obtain ⟨h1, h2⟩ := h
  refine ⟨(h1.set (f i) _).congr fun j _ => ?_, h2.setCell (p := ⟨W4.heap.size, f i, none⟩) (Nat.le_refl _) _⟩
  rw [metB]
  split <;> rfl
theorem So2.below (h : So2 W4 tb Y f i W) (hb : Below W.heap.size W W') : So2 W4 tb Y f i W' := by
  obtain ⟨h1, h2⟩ := h
  exact ⟨h1.of_block (hb.block _ h1.lt), h2.trans (hb.mono h2.size)⟩
theorem So2.cell (h : So2 W4 tb Y f i W) {j : Nat} (hj : j < Y) : W.cell? ⟨W4.heap.size, j, none⟩ = some (.bool (metB f i j)) := h.1.cell hj
end
theorem srt_steps {Y N l : Nat} {t : List (Nat × Nat)} (hY : 1 ≤ Y) (a : Nat) (ht : t.length = l) : (t ++ soT a N (netK (Y - 1))).length = l + (4 * N + 2) * Y * (Y - 1) / 2 := by
  rw [List.length_append, soT_len, ht]
  have := netK_len (Y - 1)
  rw [show Y - 1 + 1 = Y by omega] at this
  have e : (4 * N + 2) * Y * (Y - 1) = 2 * ((4 * N + 2) * (netK (Y - 1)).length) := by
    rw [Nat.mul_assoc, Nat.mul_comm Y (Y - 1), ← this, Nat.mul_left_comm]
  rw [e, Nat.mul_div_cancel_left _ (by omega)]
theorem urow_at0 {W : World} {g n c : Nat} {xs : List Nat} (h : URow W (.slice (some ⟨g, 0, none⟩) n c) xs) {i : Nat} (hi : i < xs.length) : W.cell? ⟨g, i, none⟩ = some (.int .u64 ((xs.getD i 0 : Nat) : Int)) := by
  obtain ⟨q', c', e, hc, hx⟩ := h
  cases e
  obtain ⟨b, o, e, h⟩ := hx i _ (List.getElem?_eq_getElem hi)
  cases e
  rw [Nat.zero_add] at h
  rw [h, List.getD_eq_getElem?_getD, List.getElem?_eq_getElem hi]; rfl
/-- True, and the world but draws. -/
def DrP (W : World) (e : Ending) (w' : World) : Prop := e = .returned (.bool true) ∧ ∃ d, w' = W.drewN d
theorem drew_below {W w' : World} (h : ∃ d, w' = W.drewN d) : Below W.heap.size W w' := by
  obtain ⟨d, rfl⟩ := h
  exact below_drewN (Below.refl _ _) d
theorem law_csd {a b : Value} {xs : List Nat} {w : World} (ha : URow w a xs) (hb : URow w b xs) (hl : xs.length ≤ 1000000) : Calls Try.prog 33 #[a, b] w (DrP w) := by
  refine (law_cs a b xs xs w ha hb hl).mono ?_
  rintro e w' ⟨rfl, d, rfl⟩
  exact ⟨by rw [eqB_true rfl], d, rfl⟩
theorem srt_css {own C : List Nat} {l a N Y h c4 g cap i : Nat} {f key : Nat → Nat} {W : World} (S : Srt own l a N Y C f key) (hi : i < Y) (hR : URow W (.slice (some ⟨h, 0, none⟩) l c4) C) (ho : OwR W g cap own) :
    Calls Try.prog 33 #[.slice (some ⟨h, a + i * N, none⟩) N (c4 - (a + i * N)), .slice (some ⟨g, a + f i * N, none⟩) N (cap - (a + f i * N))] W (DrP W) := by
  obtain ⟨p1, p2⟩ := S.at hi
  have r1 := hR.sub (a + i * N) N p1
  have r2 := ho.row.sub (a + f i * N) N (by rw [S.ho]; exact p2)
  rw [S.rows hi] at r1
  exact law_csd r1 r2 (by rw [List.length_take]; have := S.n2; omega)
theorem srt_prev {own C : List Nat} {l a N Y h c4 i : Nat} {f key : Nat → Nat} (S : Srt own l a N Y C f key) (hi : i < Y) (h0 : i ≠ 0) : ∃ ap kp bp, ap + N = a + i * N ∧ (kp < key (f i) ∨ kp = key (f i) ∧ bp < f i) ∧ ∀ W, URow W (.slice (some ⟨h, 0, none⟩) l c4) C → W.cell? ⟨h, ap, none⟩ = some (.int .u64 (kp : Int)) ∧ W.cell? ⟨h, ap + 1, none⟩ = some (.int .u64 (bp : Int)) := by
  obtain ⟨j, rfl⟩ : ∃ j, i = j + 1 := ⟨i - 1, by omega⟩
  have e : (j + 1) * N = j * N + N := Nat.succ_mul j N
  have hn := S.n2
  have p1 := (S.at hi).1
  have hc := S.hC
  refine ⟨a + j * N, key (f j), f j, by omega, S.asc j hi, fun W hR => ?_⟩
  rw [← S.c0 (show j < Y by omega)]
  conv => rhs; rw [← S.c1 (show j < Y by omega)]
  exact ⟨urow_at0 hR (by omega), urow_at0 hR (by omega)⟩
section
variable {own C : List Nat} {l a N Y h c4 g cap en : Nat} {f key : Nat → Nat} {W : World}
theorem srt_head (S : Srt own l a N Y C f key) (hR : URow W (.slice (some ⟨h, 0, none⟩) l c4) C) (ho : OwR W g cap own) :
    Calls Try.prog 33 #[.slice (some ⟨h, 0, none⟩) a c4, .slice (some ⟨g, 0, none⟩) a cap] W (DrP W) := by
  have hb := S.bnd
  have hl := S.ho
  have r1 : URow W (.slice (some ⟨h, 0, none⟩) a c4) _ := hR.sub 0 a (by omega)
  have r2 : URow W (.slice (some ⟨g, 0, none⟩) a cap) _ := ho.row.sub 0 a (by omega)
  rw [S.rel.head] at r1
  exact law_csd r1 r2 (by rw [List.length_take, List.length_drop]; have := ho.le; have := S.ho; have := S.n2; have := S.y2; have := S.sm; omega)
/-- The rest of a row, whatever place the model gives an empty one. -/
theorem URow.rest {g n c : Nat} {xs : List Nat} {p : Option Addr} (h : URow W (.slice (some ⟨g, 0, Option.none⟩) n c) xs) (hn : n ≤ c) (en : Nat) (hen : en ≤ n) (hp : (if c = en then some ⟨g, 0, Option.none⟩ else some ⟨g, en, Option.none⟩) = p) : URow W (.slice p (n - en) (c - en)) ((xs.drop en).take (n - en)) := by
  by_cases e : c = en
  · rw [show n - en = 0 by omega, List.take_zero]
    exact URow.none p _
  · rw [if_neg e] at hp
    subst hp
    exact h.sub en (n - en) (by omega)
theorem srt_tail {pg pw : Option Addr} (S : Srt own l a N Y C f key) (he : en = a + N * Y) (hR : URow W (.slice (some ⟨h, 0, none⟩) l c4) C) (ho : OwR W g cap own)
    (hpg : (if c4 = en then some ⟨h, 0, none⟩ else some ⟨h, en, none⟩) = pg) (hpw : (if cap = en then some ⟨g, 0, none⟩ else some ⟨g, en, none⟩) = pw) :
    Calls Try.prog 33 #[.slice pg (l - en) (c4 - en), .slice pw (l - en) (cap - en)] W (DrP W) := by
  have hb := S.bnd
  have hl := S.ho
  have hc := S.hC
  rw [Nat.mul_comm] at he
  have hlc : l ≤ c4 := by
    obtain ⟨q', c', e, h1, _⟩ := hR
    cases e
    omega
  have r1 := hR.rest hlc en (by omega) hpg
  have r2 := ho.row.rest ho.le en (by omega) hpw
  have h1 := S.rel.tail
  rw [hl, hc, ← he] at h1
  rw [h1] at r1
  rw [hl] at r2
  exact law_csd r1 r2 (by rw [List.length_take, List.length_drop]; have := S.sm; omega)
end
theorem So2.frozen {W4 W : World} {tb : TypeId} {Y i : Nat} {f : Nat → Nat} (h : So2 W4 tb Y f i W) (j : Nat) : W.frozen? ⟨W4.heap.size, j, none⟩ = false := h.1.frozen j
theorem b_info : (Try.prog.info? 4).map (fun i => (i.zero, i.size, i.bytes)) = some (some (.bool false), 1, 1) := by kernel_rfl
theorem b_und : Try.prog.underlying 50 = some (.slice 4) := by kernel_rfl
end Go.Proofs.Ytalnhbjpfnodiaa
