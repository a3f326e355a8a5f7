/- The steps of Swap and Move of cells that are there, in both arenas; what is checked. -/
import Derived.Test.YtalnhbjpfnodiaaZa
namespace Go.Proofs.Ytalnhbjpfnodiaa
open Go.RowKit
section
variable {w w1 w2 : World} {F F1 : Nat → Prop} {p : Nat} {cs c2 : List Nat} {rs r2 : List Rg} {tr t2 : List (Nat × Nat)}
theorem Step.stay (h : Ar w F p cs rs tr) (hb : Below w.heap.size w w1) : Step w F p cs rs tr w1 := ⟨F, fun _ hk => .inl hk, h.below hb, Kept.of_below hb⟩
theorem Step.trans (e1 : ∀ k, F1 k → F k ∨ w.heap.size ≤ k) (k1 : Kept F w w1) (h : Step w1 F1 p c2 r2 t2 w2) : Step w F p c2 r2 t2 w2 := by
  obtain ⟨F2, e2, a2, k2⟩ := h
  refine ⟨F2, fun k hk => ?_, a2, k1.trans k2 e1⟩
  rcases e2 k hk with h1 | h1
  · exact e1 k h1
  · exact .inr (Nat.le_trans k1.size h1)
theorem RStep.stay (h : Rb w F p cs rs tr) (hb : Below w.heap.size w w1) : RStep w F p cs rs tr w1 := ⟨F, fun _ hk => .inl hk, h.below hb, Kept.of_below hb⟩
theorem RStep.trans (e1 : ∀ k, F1 k → F k ∨ w.heap.size ≤ k) (k1 : Kept F w w1) (h : RStep w1 F1 p c2 r2 t2 w2) : RStep w F p c2 r2 t2 w2 := by
  obtain ⟨F2, e2, a2, k2⟩ := h
  refine ⟨F2, fun k hk => ?_, a2, k1.trans k2 e1⟩
  rcases e2 k hk with h1 | h1
  · exact e1 k h1
  · exact .inr (Nat.le_trans k1.size h1)
theorem Ar.wcs (h : Ar w F p cs rs tr) : ∀ x ∈ cs, x < 2 ^ 64 := by obtain ⟨_, _, _, _, h⟩ := h; exact h.wcs
theorem Ar.lt (h : Ar w F p cs rs tr) : ∀ k, F k → k < w.heap.size := by obtain ⟨_, _, _, _, h⟩ := h; exact h.lt
theorem Rb.lt (h : Rb w F p cs rs tr) : ∀ k, F k → k < w.heap.size := by obtain ⟨_, _, _, h⟩ := h; exact h.lt
theorem wcs_at (h : ∀ x ∈ cs, x < 2 ^ 64) (i : Nat) : cs.getD i 0 < 2 ^ 64 := by
  rw [List.getD_eq_getElem?_getD]
  cases e : cs[i]? with
  | none => decide
  | some v => exact h v (List.mem_of_getElem? e)
theorem ar_load (h : Ar w F p cs rs tr) (a u : Nat) (hu : u = cs.getD a 0) (ha : a < cs.length) (hl : tr.length < 8388608) : Calls Try.prog 76 #[.pointer (some ⟨p, 0, none⟩), .int .i64 (a : Int)] w fun e w' => e = .returned (.tuple #[.int .u64 (u : Int), .int .i64 0]) ∧ Step w F p cs rs (tr ++ [(1, a)]) w' := by
  subst hu; obtain ⟨_, _, _, _, hx⟩ := h; exact load_good hx a ha hl
theorem ar_store (h : Ar w F p cs rs tr) (a v : Nat) (ha : a < cs.length) (hv : v < 2 ^ 64) (hl : tr.length < 8388608) : Calls Try.prog 43 #[.pointer (some ⟨p, 0, none⟩), .int .i64 (a : Int), .int .u64 (v : Int)] w fun e w' => e = .returned (.int .i64 0) ∧ Step w F p (cs.set a v) rs (tr ++ [(2, a)]) w' := by
  obtain ⟨_, _, _, _, hx⟩ := h; exact store_good hx a v ha hv hl
theorem rb_load (h : Rb w F p cs rs tr) (a u : Nat) (hu : u = cs.getD a 0) (ha : a < cs.length) (hl : tr.length < 8388608) : Calls Try.prog 83 #[.pointer (some ⟨p, 0, none⟩), .int .i64 (a : Int)] w fun e w' => e = .returned (.tuple #[.int .u64 (u : Int), .int .i64 0]) ∧ RStep w F p cs rs (tr ++ [(1, a)]) w' := by
  subst hu; obtain ⟨_, _, _, hx⟩ := h; exact rload_good hx a ha hl
theorem rb_store (h : Rb w F p cs rs tr) (a v : Nat) (ha : a < cs.length) (_ : v < 2 ^ 64) (hl : tr.length < 8388608) : Calls Try.prog 44 #[.pointer (some ⟨p, 0, none⟩), .int .i64 (a : Int), .int .u64 (v : Int)] w fun e w' => e = .returned (.int .i64 0) ∧ RStep w F p (cs.set a v) rs (tr ++ [(2, a)]) w' := by
  obtain ⟨_, _, _, hx⟩ := h; exact rstore_good hx a v ha hl
end
theorem len1 {α : Type} {l : List α} {n k : Nat} (h : l.length + (k + 1) ≤ n) (x : α) : (l ++ [x]).length + k ≤ n := by simp; omega
section
variable {w : World} {F : Nat → Prop} {p : Nat} {cs : List Nat} {rs : List Rg} {tr : List (Nat × Nat)}
set_option maxRecDepth 100000 in
theorem swap_any (h : Ar w F p cs rs tr) (hw : ∀ x ∈ cs, x < 2 ^ 64) (m x y : Nat) (hm : m < 2 ^ 64) (hx : x < cs.length) (hy : y < cs.length) (hl : tr.length + 4 ≤ 8388608) :
    Calls Try.prog 89 #[.pointer (some ⟨p, 0, none⟩), .int .u64 (m : Int), .int .i64 (x : Int), .int .i64 (y : Int)] w fun e w' => e = .returned (.tuple #[]) ∧ Step w F p (swC m x y cs) rs (tr ++ swT x y) w' := by
  obtain ⟨u, hu⟩ : ∃ u, u = cs.getD x 0 := ⟨_, rfl⟩
  obtain ⟨v, hv⟩ : ∃ v, v = cs.getD y 0 := ⟨_, rfl⟩
  have hu2 : u < 2 ^ 64 := hu ▸ wcs_at hw x
  have hv2 : v < 2 ^ 64 := hv ▸ wcs_at hw y
  obtain ⟨s1, hs1⟩ : ∃ s, s = selM m v u := ⟨_, rfl⟩
  obtain ⟨s2, hs2⟩ : ∃ s, s = selM m u v := ⟨_, rfl⟩
  have L1 := Lib.hid (ar_load h x u hu hx (by omega))
  have HU := Lib.hid hu
  have HV := Lib.hid hv
  have H1 := Lib.hid hs1
  have H2 := Lib.hid hs2
  have HX := Lib.hid hx
  have HY := Lib.hid hy
  have HL := Lib.hid hl
  have HM := Lib.hid hm
  have E1 := Lib.hid (hs1 ▸ selM_lt hv2 hu2 : s1 < 2 ^ 64)
  have E2 := Lib.hid (hs2 ▸ selM_lt hu2 hv2 : s2 < 2 ^ 64)
  have C1 := Lib.hid (fun W => hs1 ▸ sel_any m v u W hm hv2 hu2 : ∀ W, Calls Try.prog 40 #[.int .u64 (m : Int), .int .u64 (v : Int), .int .u64 (u : Int)] W fun e w' => e = .returned (.int .u64 (s1 : Int)) ∧ W = w')
  have C2 := Lib.hid (fun W => hs2 ▸ sel_any m u v W hm hu2 hv2 : ∀ W, Calls Try.prog 40 #[.int .u64 (m : Int), .int .u64 (u : Int), .int .u64 (v : Int)] W fun e w' => e = .returned (.int .u64 (s2 : Int)) ∧ W = w')
  clear hu hv hs1 hs2 hu2 hv2 hx hy hl hm hw
  go_enter Try.func89, Try.ntmps89
  go_wp2_with (first
    | (go_at_call 76; (with_reducible refine (L1.out).mono ?_); rintro e w1 ⟨rfl, F1, e1, a1, k1⟩; have A1 := Lib.hid a1; have Q1 := Lib.hid (And.intro e1 k1); clear a1 e1 k1)
    | (go_at_call 76; (with_reducible refine (ar_load A1.out y v HV.out HY.out (by simp; have := HL.out; omega)).mono ?_); rintro e w2 ⟨rfl, F2, e2, a2, k2⟩; have A2 := Lib.hid a2; have Q2 := Lib.hid (And.intro e2 k2); clear a2 e2 k2)
    | (go_at_call 40; (with_reducible refine (C1.out _).mono ?_); rintro e w' ⟨rfl, rfl⟩)
    | (go_at_call 40; (with_reducible refine (C2.out _).mono ?_); rintro e w' ⟨rfl, rfl⟩)
    | (go_at_call 43; (with_reducible refine (ar_store A2.out x s1 HX.out E1.out (by simp; have := HL.out; omega)).mono ?_); rintro e w3 ⟨rfl, F3, e3, a3, k3⟩; have A3 := Lib.hid a3; have Q3 := Lib.hid (And.intro e3 k3); clear a3 e3 k3) | (go_at_call 43; (with_reducible refine (ar_store A3.out y s2 (by simp; exact HY.out) E2.out (by simp; have := HL.out; omega)).mono ?_); rintro e w4 ⟨rfl, hs4⟩))
  refine bodyPost_end (results_none rfl _ _ _) rfl ?_
  have hf : swC m x y cs = (cs.set x s1).set y s2 := by rw [H1.out, H2.out, HU.out, HV.out]; rfl
  refine ⟨rfl, ?_⟩
  rw [hf, show tr ++ swT x y = tr ++ [(1, x)] ++ [(1, y)] ++ [(2, x)] ++ [(2, y)] by simp [swT]]
  exact Step.trans Q1.out.1 Q1.out.2 (Step.trans Q2.out.1 Q2.out.2 (Step.trans Q3.out.1 Q3.out.2 hs4))
set_option maxRecDepth 100000 in
theorem rswap_any (h : Rb w F p cs rs tr) (hw : ∀ x ∈ cs, x < 2 ^ 64) (m x y : Nat) (hm : m < 2 ^ 64) (hx : x < cs.length) (hy : y < cs.length) (hl : tr.length + 4 ≤ 8388608) :
    Calls Try.prog 92 #[.pointer (some ⟨p, 0, none⟩), .int .u64 (m : Int), .int .i64 (x : Int), .int .i64 (y : Int)] w fun e w' => e = .returned (.tuple #[]) ∧ RStep w F p (swC m x y cs) rs (tr ++ swT x y) w' := by
  obtain ⟨u, hu⟩ : ∃ u, u = cs.getD x 0 := ⟨_, rfl⟩
  obtain ⟨v, hv⟩ : ∃ v, v = cs.getD y 0 := ⟨_, rfl⟩
  have hu2 : u < 2 ^ 64 := hu ▸ wcs_at hw x
  have hv2 : v < 2 ^ 64 := hv ▸ wcs_at hw y
  obtain ⟨s1, hs1⟩ : ∃ s, s = selM m v u := ⟨_, rfl⟩
  obtain ⟨s2, hs2⟩ : ∃ s, s = selM m u v := ⟨_, rfl⟩
  have L1 := Lib.hid (rb_load h x u hu hx (by omega))
  have HU := Lib.hid hu
  have HV := Lib.hid hv
  have H1 := Lib.hid hs1
  have H2 := Lib.hid hs2
  have HX := Lib.hid hx
  have HY := Lib.hid hy
  have HL := Lib.hid hl
  have HM := Lib.hid hm
  have E1 := Lib.hid (hs1 ▸ selM_lt hv2 hu2 : s1 < 2 ^ 64)
  have E2 := Lib.hid (hs2 ▸ selM_lt hu2 hv2 : s2 < 2 ^ 64)
  have C1 := Lib.hid (fun W => hs1 ▸ rsel_any m v u W hm hv2 hu2 : ∀ W, Calls Try.prog 97 #[.int .u64 (m : Int), .int .u64 (v : Int), .int .u64 (u : Int)] W fun e w' => e = .returned (.int .u64 (s1 : Int)) ∧ W = w')
  have C2 := Lib.hid (fun W => hs2 ▸ rsel_any m u v W hm hu2 hv2 : ∀ W, Calls Try.prog 97 #[.int .u64 (m : Int), .int .u64 (u : Int), .int .u64 (v : Int)] W fun e w' => e = .returned (.int .u64 (s2 : Int)) ∧ W = w')
  clear hu hv hs1 hs2 hu2 hv2 hx hy hl hm hw
  go_enter Try.func92, Try.ntmps92
  go_wp2_with (first
    | (go_at_call 83; (with_reducible refine (L1.out).mono ?_); rintro e w1 ⟨rfl, F1, e1, a1, k1⟩; have A1 := Lib.hid a1; have Q1 := Lib.hid (And.intro e1 k1); clear a1 e1 k1)
    | (go_at_call 83; (with_reducible refine (rb_load A1.out y v HV.out HY.out (by simp; have := HL.out; omega)).mono ?_); rintro e w2 ⟨rfl, F2, e2, a2, k2⟩; have A2 := Lib.hid a2; have Q2 := Lib.hid (And.intro e2 k2); clear a2 e2 k2)
    | (go_at_call 97; (with_reducible refine (C1.out _).mono ?_); rintro e w' ⟨rfl, rfl⟩)
    | (go_at_call 97; (with_reducible refine (C2.out _).mono ?_); rintro e w' ⟨rfl, rfl⟩)
    | (go_at_call 44; (with_reducible refine (rb_store A2.out x s1 HX.out E1.out (by simp; have := HL.out; omega)).mono ?_); rintro e w3 ⟨rfl, F3, e3, a3, k3⟩; have A3 := Lib.hid a3; have Q3 := Lib.hid (And.intro e3 k3); clear a3 e3 k3) | (go_at_call 44; (with_reducible refine (rb_store A3.out y s2 (by simp; exact HY.out) E2.out (by simp; have := HL.out; omega)).mono ?_); rintro e w4 ⟨rfl, hs4⟩))
  refine bodyPost_end (results_none rfl _ _ _) rfl ?_
  have hf : swC m x y cs = (cs.set x s1).set y s2 := by rw [H1.out, H2.out, HU.out, HV.out]; rfl
  refine ⟨rfl, ?_⟩
  rw [hf, show tr ++ swT x y = tr ++ [(1, x)] ++ [(1, y)] ++ [(2, x)] ++ [(2, y)] by simp [swT]]
  exact RStep.trans Q1.out.1 Q1.out.2 (RStep.trans Q2.out.1 Q2.out.2 (RStep.trans Q3.out.1 Q3.out.2 hs4))
end
end Go.Proofs.Ytalnhbjpfnodiaa
