/- Layer 1: what a row's condition says of the listed variables. -/
import Derived.Test.YtoapfldmkpobmaaGreatDoorZ
import Derived.Test.YtoapfldmkpobmaaGreatDoorTie
import Derived.ProofKit
import Derived.LaidMore
import Derived.OpenShut
import Derived.Stop.Joined
import Derived.Shelf.Vars
namespace Go.Proofs.YtoapfldmkpobmaaGreatDoor
open Go.RowKit
theorem laid_mem {P : Program} {w : World} : ∀ {l : List (String × DataW Unit)} {ps : List MemPlace}, DataW.LaidVars P w l ps → ∀ x ∈ l, ∃ g t cs fuel p, P.globalNamed x.1 = some g ∧ (P.globals[g]?).map (·.type) = some t ∧ w.var? P x.1 = some cs ∧ DataW.trod (fun _ => ()) P w 0 (fun _ => true) false fuel t cs.toList = some (x.2, p)
  | [], _, _, x, hx => by cases hx
  | (n, d) :: r, _, h, x, hx => by
    obtain ⟨g, t, cs, fuel, p, q, h1, h2, h3, h4, h5, _⟩ := h
    rcases List.mem_cons.1 hx with rfl | hx
    · exact ⟨g, t, cs, fuel, p, h1, h2, h3, h4⟩
    · exact laid_mem h5 x hx
theorem arr_of {cs : Array Value} {l : List Value} (h : cs.toList = l) : cs = l.toArray := by rw [← h]
theorem iface_of {P : Program} {w : World} {fuel : Nat} {t : TypeId} {m : Array (String × TypeId)} {cs : List Value} {n : String} {d : DataW Unit} {p : List MemPlace} (ht : P.underlying t = some (.interface m))
    (h : DataW.trod (fun _ => ()) P w 0 (fun _ => true) false fuel t cs = some (.iface n d, p)) : ∃ u v, cs = [.iface u v] := by
  cases fuel with
  | zero => simp [DataW.trod] at h
  | succ k =>
    unfold DataW.trod at h
    rw [ht] at h
    split at h <;> simp_all
theorem esc_pair {P : Program} {w : World} {m : Nat} {e u : TypeId} {f0 f1 : Field} {cs : List Value} {x : DataW Unit × List MemPlace} {a b : Int} (he : P.underlying e = some (.struct #[f0, f1])) (h0 : f0.type = u ∧ f0.offset = 0) (h1 : f1.type = u ∧ f1.offset = 1)
    (hu : P.underlying u = some (.int .u8)) (hcu : P.cellsOf u = 1) (hce : P.cellsOf e = 2) (h : DataW.trod (fun _ => ()) P w 0 (fun _ => true) false m e cs = some x) (hx : x.1 = .agg [.lit (.int .u8 a), .lit (.int .u8 b)]) : cs = [.int .u8 a, .int .u8 b] := by
  obtain ⟨xs, k, rfl, rfl, hl, hn, hel⟩ := DataW.trod_struct he h
  rw [hce] at hl
  match cs, hl with
  | [c, d], _ =>
    match xs, hn, hx, hel with
    | [x0, x1], _, hx, hel =>
      simp only [DataW.agg.injEq, List.map_cons, List.map_nil, List.cons.injEq, and_true] at hx
      have e0 := hel 0 f0 rfl
      have e1 := hel 1 f1 rfl
      rw [h0.1, h0.2, hcu] at e0
      rw [h1.1, h1.2, hcu] at e1
      obtain ⟨n0, g0, r0, _⟩ := DataW.trod_int hu (show DataW.trod _ P w 0 _ false k u _ = some x0 from e0)
      obtain ⟨n1, g1, r1, _⟩ := DataW.trod_int hu (show DataW.trod _ P w 0 _ false k u _ = some x1 from e1)
      simp at g0 g1
      rw [r0, r1] at hx
      simp at hx
      rw [g0, g1, hx.1, hx.2]
theorem escs_of {P : Program} {w : World} {fuel : Nat} {t e u : TypeId} {f0 f1 : Field} {cs : List Value} {p : List MemPlace} (ht : P.underlying t = some (.array 5 e)) (he : P.underlying e = some (.struct #[f0, f1])) (h0 : f0.type = u ∧ f0.offset = 0) (h1 : f1.type = u ∧ f1.offset = 1)
    (hu : P.underlying u = some (.int .u8)) (hcu : P.cellsOf u = 1) (hce : P.cellsOf e = 2) (hct : P.cellsOf t = 10) (h : DataW.trod (fun _ => ()) P w 0 (fun _ => true) false fuel t cs = some (Rows.laid_dragnet_words_escapes, p)) :
    cs = [.int .u8 34, .int .u8 34, .int .u8 92, .int .u8 92, .int .u8 10, .int .u8 110, .int .u8 13, .int .u8 114, .int .u8 9, .int .u8 116] := by
  obtain ⟨xs, k, rfl, hx, hl, hn, hel⟩ := DataW.trod_array ht h
  rw [hct] at hl
  have hx := congrArg Prod.fst hx
  unfold Rows.laid_dragnet_words_escapes at hx
  match cs, hl with
  | [c0, c1, c2, c3, c4, c5, c6, c7, c8, c9], _ =>
    match xs, hn, hx, hel with
    | [x0, x1, x2, x3, x4], _, hx, hel =>
      simp only [DataW.agg.injEq, List.map_cons, List.map_nil, List.cons.injEq, and_true] at hx
      obtain ⟨y0, y1, y2, y3, y4⟩ := hx
      rw [hce] at hel
      have r0 := esc_pair he h0 h1 hu hcu hce (show DataW.trod _ P w 0 _ false k e _ = some x0 from hel 0 (by omega)) y0.symm
      have r1 := esc_pair he h0 h1 hu hcu hce (show DataW.trod _ P w 0 _ false k e _ = some x1 from hel 1 (by omega)) y1.symm
      have r2 := esc_pair he h0 h1 hu hcu hce (show DataW.trod _ P w 0 _ false k e _ = some x2 from hel 2 (by omega)) y2.symm
      have r3 := esc_pair he h0 h1 hu hcu hce (show DataW.trod _ P w 0 _ false k e _ = some x3 from hel 3 (by omega)) y3.symm
      have r4 := esc_pair he h0 h1 hu hcu hce (show DataW.trod _ P w 0 _ false k e _ = some x4 from hel 4 (by omega)) y4.symm
      simp at r0 r1 r2 r3 r4
      simp [r0, r1, r2, r3, r4]
abbrev laid6 : List (String × DataW Unit) := [("math/bits.deBruijn32tab", Rows.laid_math_bits_deBruijn32tab), ("math/bits.deBruijn64tab", Rows.laid_math_bits_deBruijn64tab), ("internal/strconv.uint64pow10", Rows.laid_internal_strconv_uint64pow10), ("strconv.ErrRange", Rows.laid_strconv_ErrRange), ("strconv.ErrSyntax", Rows.laid_strconv_ErrSyntax), ("dragnet/words.escapes", Rows.laid_dragnet_words_escapes)]
theorem gESC : Tryz.prog.globalNamed "dragnet/words.escapes" = some 0 := by kernel_rfl
theorem shape_at {w : World} (h : w.ShapedOpen Tryz.prog) {g : Nat} {t : TypeId} (hg : g < Tryz.prog.globals.size) (h0 : (((begin Tryz.prog (fun _ _ => 0) default).world.heap[g]?).bind Obj.row?).map (·.2) = some t) : ∃ cs, w.heap[g]? = some (.cells cs t) := by
  obtain ⟨⟨z, t'⟩, hz, e⟩ := Option.map_eq_some_iff.1 h0
  cases e
  obtain ⟨cs, a, _⟩ := h.1 g z t' hg hz
  exact ⟨cs, a⟩
theorem lw_of_laid {W : World} {laid : List (String × DataW Unit)} (hm : ∀ x ∈ laid6, x ∈ laid) (h : laidMet Tryz.prog laid W) (hs : W.ShapedOpen Tryz.prog) : LW W := by
  obtain ⟨ps, hl, _⟩ := h
  have sP := shape_at hs (g := 4) (t := 123) (of_decide_eq_true (by kernel_rfl)) (by kernel_rfl)
  have sE := shape_at hs (g := 2) (t := 59) (of_decide_eq_true (by kernel_rfl)) (by kernel_rfl)
  have sS := shape_at hs (g := 0) (t := 98) (of_decide_eq_true (by kernel_rfl)) (by kernel_rfl)
  have sM := shape_at hs (g := 3) (t := 3) (of_decide_eq_true (by kernel_rfl)) (by kernel_rfl)
  obtain ⟨cP, hP⟩ := sP
  obtain ⟨cE, hE⟩ := sE
  obtain ⟨cS, hS⟩ := sS
  obtain ⟨cM, hM⟩ := sM
  refine ⟨?_, ?_, ?_, ?_, in_heap hP, in_heap hE, in_heap hS, in_heap hM⟩
  · obtain ⟨g, t, cs, fuel, p, h1, h2, h3, h4⟩ := laid_mem hl ("internal/strconv.uint64pow10", Rows.laid_internal_strconv_uint64pow10) (hm _ (by simp [laid6]))
    obtain rfl := Option.some.inj (gP10.symm.trans h1)
    obtain rfl : t = 123 := Option.some.inj (h2.symm.trans (by kernel_rfl))
    have := Lib.cells_of_tab (k := .u64) (zs := Lib.pow10Tab) Tryz.underlying123 Tryz.underlying89 (by kernel_rfl) (by kernel_rfl) h4
    unfold Lib.TabIs
    rw [h3, ← this]
  · obtain ⟨g, t, cs, fuel, p, h1, h2, h3, h4⟩ := laid_mem hl ("strconv.ErrRange", Rows.laid_strconv_ErrRange) (hm _ (by simp [laid6]))
    obtain rfl := Option.some.inj (gER.symm.trans h1)
    obtain rfl : t = 59 := Option.some.inj (h2.symm.trans (by kernel_rfl))
    obtain ⟨u, v, e⟩ := iface_of Tryz.underlying59 h4
    refine ⟨u, v, h3.trans ?_⟩
    rw [arr_of e]
  · obtain ⟨g, t, cs, fuel, p, h1, h2, h3, h4⟩ := laid_mem hl ("dragnet/words.escapes", Rows.laid_dragnet_words_escapes) (hm _ (by simp [laid6]))
    obtain rfl := Option.some.inj (gESC.symm.trans h1)
    obtain rfl : t = 98 := Option.some.inj (h2.symm.trans (by kernel_rfl))
    have e := escs_of Tryz.underlying98 Tryz.underlying97 ⟨rfl, rfl⟩ ⟨rfl, rfl⟩ Tryz.underlying5 (by kernel_rfl) (by kernel_rfl) (by kernel_rfl) h4
    refine ⟨(0, 0), ?_⟩
    have hc : cs = cS := by
      unfold World.var? at h3
      rw [gESC] at h3
      simp only [Option.bind_some, hS] at h3
      exact (Option.some.inj h3).symm
    rw [hS, ← hc, arr_of e]
  · exact cell_of_shapedOpen_int hs (of_decide_eq_true (by kernel_rfl)) (zero := #[.int .i64 0]) (t := 3) (by kernel_rfl) rfl (by kernel_rfl) (by kernel_rfl) Tryz.underlying3
end Go.Proofs.YtoapfldmkpobmaaGreatDoor
