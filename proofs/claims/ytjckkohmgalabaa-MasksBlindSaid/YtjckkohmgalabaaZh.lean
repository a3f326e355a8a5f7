/- A call of both arenas. -/
import Derived.Test.YtjckkohmgalabaaZg
import Derived.Deep.RegionHeld3
import Derived.Deep.QuietTactic
namespace Go.Proofs.Ytjckkohmgalabaa
open Go.RowKit
abbrev no : Nat → Prop := fun _ => False
structure Cq where
  m : Nat
  x : Int
  y : Int
  k : Int
def Cq.ok (c : Cq) : Prop := c.m < 2 ^ 64 ∧ i64R c.x ∧ i64R c.y ∧ i64R c.k
def cqA (c : Cq) : Value := .agg #[.int .u64 (c.m : Int), .int .i64 c.x, .int .i64 c.y, .int .i64 c.k]
abbrev cqO (m : Nat) (x y k : Int) : Obj := .cells #[.int .u64 (m : Int), .int .i64 x, .int .i64 y, .int .i64 k] 39
theorem cq_cells {W : World} {B m : Nat} {x y k : Int} (h : W.heap[B]? = some (cqO m x y k)) : W.cell? ⟨B, 0, none⟩ = some (.int .u64 (m : Int)) ∧ W.cell? ⟨B, 1, none⟩ = some (.int .i64 x) ∧ W.cell? ⟨B, 2, none⟩ = some (.int .i64 y) ∧ W.cell? ⟨B, 3, none⟩ = some (.int .i64 k) :=
  ⟨cell_blk h 0, cell_blk h 1, cell_blk h 2, cell_blk h 3⟩
section
variable {w0 W W' : World} {X X' : Nat → Prop} {pa pb : Nat} {ca cb c' : List Nat} {ra rb : List Rg} {ta tb t' : List (Nat × Nat)} {f : Nat} {args : Array Value} {E : Int}
theorem pa_act (h : Pr w0 W X pa pb ca ra ta cb rb tb) (hc : ∀ F, Ar W F pa ca ra ta → Calls Try.prog f args W (AcP W F pa ca ra ta E c' t')) : Calls Try.prog f args W (PrPost w0 W X pa pb (if E = 0 then c' else ca) ra (if E = 0 then ta ++ t' else ta) cb rb tb (.int .i64 E)) := by
  obtain ⟨F, ar, nx⟩ := pr_a h
  refine (hc F ar).mono ?_
  rintro e w' ⟨rfl, hs⟩
  exact nx _ _ _ _ _ hs
theorem pb_act (h : Pr w0 W X pa pb ca ra ta cb rb tb) (hc : ∀ F, Rb W F pb cb rb tb → Calls Try.prog f args W (RcP W F pb cb rb tb E c' t')) : Calls Try.prog f args W (PrPost w0 W X pa pb ca ra ta (if E = 0 then c' else cb) rb (if E = 0 then tb ++ t' else tb) (.int .i64 E)) := by
  obtain ⟨F, rr, nx⟩ := pr_b h
  refine (hc F rr).mono ?_
  rintro e w' ⟨rfl, hs⟩
  exact nx _ _ _ _ _ hs
theorem Pr.wcs (h : Pr w0 W X pa pb ca ra ta cb rb tb) : ∀ x ∈ ca, x < 2 ^ 64 := by
  obtain ⟨F, ar, _⟩ := pr_a h; exact ar.wcs
end
/-- What a call of law.do does: its error, the cells and the steps behind it. -/
def actE (n t wh : Nat) (c : Cq) : Int := if wh % 5 = 0 then swE n t c.m c.x c.y else if wh % 5 = 1 then mvE n t c.m c.x c.y else if wh % 5 = 2 then clE n t c.m c.x else if wh % 5 = 3 then rowE n t c.m 4 c.x c.y c.k else rowE n t c.m 3 c.x c.y c.k
def DoPost (w0 : World) (pa pb : Nat) (cs : List Nat) (e : Ending) (W' : World) : Prop :=
  ∃ E : Int, e = .returned (.tuple #[.int .i64 E, .int .i64 E]) ∧ ∃ cs' tr', Pr w0 W' no pa pb cs' [] tr' cs' [] tr' ∧ cs'.length = cs.length
theorem do_end {w0 W' : World} {X : Nat → Prop} {pa pb : Nat} {cs cs' : List Nat} {tr' : List (Nat × Nat)} {E : Int} (h : Pr w0 W' X pa pb cs' [] tr' cs' [] tr') (h1 : cs'.length = cs.length) : DoPost w0 pa pb cs (.returned (.tuple #[.int .i64 E, .int .i64 E])) W' :=
  ⟨E, rfl, _, _, h.less (fun _ h => h.elim), h1⟩
set_option maxRecDepth 100000 in
set_option maxHeartbeats 8000000 in
theorem do_any {w0 W : World} {pa pb : Nat} {cs : List Nat} {tr : List (Nat × Nat)} (h : Pr w0 W no pa pb cs [] tr cs [] tr) (wh : Nat) (c : Cq) (hc : c.ok) :
    Calls Try.prog 21 #[.pointer (some ⟨pa, 0, none⟩), .pointer (some ⟨pb, 0, none⟩), .int .u8 (wh : Int), cqA c] W (DoPost w0 pa pb cs) := by
  obtain ⟨m, x, y, k⟩ := c
  obtain ⟨hm, hx, hy, hk⟩ := hc
  unfold cqA
  dsimp only at hm hx hy hk ⊢
  have hw := h.wcs
  have P1 := Lib.hid ((h.fresh (cqO m x y k)).below ((Below.refl _ (W.alloc (cqO m x y k))).drew))
  have B1 := Lib.hid (heap_alloc_new W (cqO m x y k))
  clear h
  have h5 : wh % 5 = 0 ∨ wh % 5 = 1 ∨ wh % 5 = 2 ∨ wh % 5 = 3 ∨ wh % 5 = 4 := by omega
  rcases h5 with h5 | h5 | h5 | h5 | h5
  · have e5 : (wh : Int) % 5 = 0 := by omega
    clear h5
    obtain ⟨E, hE⟩ : ∃ E, E = swE cs.length tr.length m x y := ⟨_, rfl⟩
    obtain ⟨c1, hc1⟩ : ∃ c, c = if E = 0 then swC m x.toNat y.toNat cs else cs := ⟨_, rfl⟩
    obtain ⟨t1, ht1⟩ : ∃ t, t = if E = 0 then tr ++ swT x.toNat y.toNat else tr := ⟨_, rfl⟩
    have A1 := Lib.hid (pa_act P1.out fun F ar => Swap_any ar m x y hm hx hy)
    have R1 := Lib.hid (pb_act P1.out fun F rr => rSwap_any rr hw m x y hm hx hy)
    have A2 := Lib.hid (fun (w2 : World) (P2 : Pr w0 w2 (fun k => no k ∨ k = W.heap.size) pa pb cs [] tr c1 [] t1) => pa_act P2 fun F ar => Swap_any ar m x y hm hx hy)
    have R2 := Lib.hid (fun (w2 : World) (P2 : Pr w0 w2 (fun k => no k ∨ k = W.heap.size) pa pb c1 [] t1 cs [] tr) => pb_act P2 fun F rr => rSwap_any rr hw m x y hm hx hy)
    have H0 := Lib.hid (show c1.length = cs.length by rw [hc1]; split; exact swC_len ..; rfl)
    rw [← hE, ← hc1, ← ht1] at A1 R1
    simp only [← hE, ← hc1, ← ht1] at A2 R2
    have y := cq_cells B1.out
    have y0 := y.1
    have y1 := y.2.1
    have y2 := y.2.2.1
    have y3 := y.2.2.2
    clear y hE hc1 ht1 hm hx hy hk hw
    go_enter Try.func21, Try.ntmps21
    go_wp2
    go_region_held3 (fun w' => w'.cell? ⟨W.heap.size, 0, none⟩ = some (.int .u64 (m : Int)) ∧ w'.cell? ⟨W.heap.size, 1, none⟩ = some (.int .i64 x) ∧ w'.cell? ⟨W.heap.size, 2, none⟩ = some (.int .i64 y) ∧ w'.cell? ⟨W.heap.size, 3, none⟩ = some (.int .i64 k))
      (first | exact ⟨y0, y1, y2, y3⟩ | exact ⟨z0, z1, z2, z3⟩)
      (first
        | (go_at_call 23; (with_reducible refine (A1.out).mono ?_); rintro e w2 ⟨rfl, h2, hX⟩; have P2 := Lib.hid h2; have B2 := Lib.hid ((hX W.heap.size (.inr rfl)).trans B1.out); have cc := cq_cells B2.out; have z0 := cc.1; have z1 := cc.2.1; have z2 := cc.2.2.1; have z3 := cc.2.2.2; clear h2 hX cc)
        | (go_at_call 42; (with_reducible refine (R1.out).mono ?_); rintro e w2 ⟨rfl, h2, hX⟩; have Q2 := Lib.hid h2; have B2 := Lib.hid ((hX W.heap.size (.inr rfl)).trans B1.out); have cc := cq_cells B2.out; have z0 := cc.1; have z1 := cc.2.1; have z2 := cc.2.2.1; have z3 := cc.2.2.2; clear h2 hX cc)
        | (go_at_call 42; (with_reducible refine (R2.out _ P2.out).mono ?_); rintro e w3 ⟨rfl, h3, hX⟩; have P3 := Lib.hid h3; have B3 := Lib.hid ((hX W.heap.size (.inr rfl)).trans B2.out); have cc := cq_cells B3.out; have z0 := cc.1; have z1 := cc.2.1; have z2 := cc.2.2.1; have z3 := cc.2.2.2; clear h3 hX cc)
        | (go_at_call 23; (with_reducible refine (A2.out _ Q2.out).mono ?_); rintro e w3 ⟨rfl, h3, hX⟩; have P3 := Lib.hid h3; have B3 := Lib.hid ((hX W.heap.size (.inr rfl)).trans B2.out); have cc := cq_cells B3.out; have z0 := cc.1; have z1 := cc.2.1; have z2 := cc.2.2.1; have z3 := cc.2.2.2; clear h3 hX cc))
    all_goals
      go_wp2
      go_ret2
      exact do_end P3.out H0.out
  · have e5 : (wh : Int) % 5 = 1 := by omega
    clear h5
    obtain ⟨E, hE⟩ : ∃ E, E = mvE cs.length tr.length m x y := ⟨_, rfl⟩
    obtain ⟨c1, hc1⟩ : ∃ c, c = if E = 0 then mvC m x.toNat y.toNat cs else cs := ⟨_, rfl⟩
    obtain ⟨t1, ht1⟩ : ∃ t, t = if E = 0 then tr ++ mvT x.toNat y.toNat else tr := ⟨_, rfl⟩
    have A1 := Lib.hid (pa_act P1.out fun F ar => Move_any ar m x y hm hx hy)
    have R1 := Lib.hid (pb_act P1.out fun F rr => rMove_any rr hw m x y hm hx hy)
    have A2 := Lib.hid (fun (w2 : World) (P2 : Pr w0 w2 (fun k => no k ∨ k = W.heap.size) pa pb cs [] tr c1 [] t1) => pa_act P2 fun F ar => Move_any ar m x y hm hx hy)
    have R2 := Lib.hid (fun (w2 : World) (P2 : Pr w0 w2 (fun k => no k ∨ k = W.heap.size) pa pb c1 [] t1 cs [] tr) => pb_act P2 fun F rr => rMove_any rr hw m x y hm hx hy)
    have H0 := Lib.hid (show c1.length = cs.length by rw [hc1]; split; exact mvC_len ..; rfl)
    rw [← hE, ← hc1, ← ht1] at A1 R1
    simp only [← hE, ← hc1, ← ht1] at A2 R2
    have y := cq_cells B1.out
    have y0 := y.1
    have y1 := y.2.1
    have y2 := y.2.2.1
    have y3 := y.2.2.2
    clear y hE hc1 ht1 hm hx hy hk hw
    go_enter Try.func21, Try.ntmps21
    go_wp2
    go_region_held3 (fun w' => w'.cell? ⟨W.heap.size, 0, none⟩ = some (.int .u64 (m : Int)) ∧ w'.cell? ⟨W.heap.size, 1, none⟩ = some (.int .i64 x) ∧ w'.cell? ⟨W.heap.size, 2, none⟩ = some (.int .i64 y) ∧ w'.cell? ⟨W.heap.size, 3, none⟩ = some (.int .i64 k))
      (first | exact ⟨y0, y1, y2, y3⟩ | exact ⟨z0, z1, z2, z3⟩)
      (first
        | (go_at_call 24; (with_reducible refine (A1.out).mono ?_); rintro e w2 ⟨rfl, h2, hX⟩; have P2 := Lib.hid h2; have B2 := Lib.hid ((hX W.heap.size (.inr rfl)).trans B1.out); have cc := cq_cells B2.out; have z0 := cc.1; have z1 := cc.2.1; have z2 := cc.2.2.1; have z3 := cc.2.2.2; clear h2 hX cc)
        | (go_at_call 43; (with_reducible refine (R1.out).mono ?_); rintro e w2 ⟨rfl, h2, hX⟩; have Q2 := Lib.hid h2; have B2 := Lib.hid ((hX W.heap.size (.inr rfl)).trans B1.out); have cc := cq_cells B2.out; have z0 := cc.1; have z1 := cc.2.1; have z2 := cc.2.2.1; have z3 := cc.2.2.2; clear h2 hX cc)
        | (go_at_call 43; (with_reducible refine (R2.out _ P2.out).mono ?_); rintro e w3 ⟨rfl, h3, hX⟩; have P3 := Lib.hid h3; have B3 := Lib.hid ((hX W.heap.size (.inr rfl)).trans B2.out); have cc := cq_cells B3.out; have z0 := cc.1; have z1 := cc.2.1; have z2 := cc.2.2.1; have z3 := cc.2.2.2; clear h3 hX cc)
        | (go_at_call 24; (with_reducible refine (A2.out _ Q2.out).mono ?_); rintro e w3 ⟨rfl, h3, hX⟩; have P3 := Lib.hid h3; have B3 := Lib.hid ((hX W.heap.size (.inr rfl)).trans B2.out); have cc := cq_cells B3.out; have z0 := cc.1; have z1 := cc.2.1; have z2 := cc.2.2.1; have z3 := cc.2.2.2; clear h3 hX cc))
    all_goals
      go_wp2
      go_ret2
      exact do_end P3.out H0.out
  · have e5 : (wh : Int) % 5 = 2 := by omega
    clear h5
    obtain ⟨E, hE⟩ : ∃ E, E = clE cs.length tr.length m x := ⟨_, rfl⟩
    obtain ⟨c1, hc1⟩ : ∃ c, c = if E = 0 then clC m x.toNat cs else cs := ⟨_, rfl⟩
    obtain ⟨t1, ht1⟩ : ∃ t, t = if E = 0 then tr ++ clT x.toNat else tr := ⟨_, rfl⟩
    have A1 := Lib.hid (pa_act P1.out fun F ar => Clear_any ar m x hm hx)
    have R1 := Lib.hid (pb_act P1.out fun F rr => rClear_any rr hw m x hm hx)
    have A2 := Lib.hid (fun (w2 : World) (P2 : Pr w0 w2 (fun k => no k ∨ k = W.heap.size) pa pb cs [] tr c1 [] t1) => pa_act P2 fun F ar => Clear_any ar m x hm hx)
    have R2 := Lib.hid (fun (w2 : World) (P2 : Pr w0 w2 (fun k => no k ∨ k = W.heap.size) pa pb c1 [] t1 cs [] tr) => pb_act P2 fun F rr => rClear_any rr hw m x hm hx)
    have H0 := Lib.hid (show c1.length = cs.length by rw [hc1]; split; exact clC_len ..; rfl)
    rw [← hE, ← hc1, ← ht1] at A1 R1
    simp only [← hE, ← hc1, ← ht1] at A2 R2
    have y := cq_cells B1.out
    have y0 := y.1
    have y1 := y.2.1
    have y2 := y.2.2.1
    have y3 := y.2.2.2
    clear y hE hc1 ht1 hm hx hy hk hw
    go_enter Try.func21, Try.ntmps21
    go_wp2
    go_region_held3 (fun w' => w'.cell? ⟨W.heap.size, 0, none⟩ = some (.int .u64 (m : Int)) ∧ w'.cell? ⟨W.heap.size, 1, none⟩ = some (.int .i64 x) ∧ w'.cell? ⟨W.heap.size, 2, none⟩ = some (.int .i64 y) ∧ w'.cell? ⟨W.heap.size, 3, none⟩ = some (.int .i64 k))
      (first | exact ⟨y0, y1, y2, y3⟩ | exact ⟨z0, z1, z2, z3⟩)
      (first
        | (go_at_call 25; (with_reducible refine (A1.out).mono ?_); rintro e w2 ⟨rfl, h2, hX⟩; have P2 := Lib.hid h2; have B2 := Lib.hid ((hX W.heap.size (.inr rfl)).trans B1.out); have cc := cq_cells B2.out; have z0 := cc.1; have z1 := cc.2.1; have z2 := cc.2.2.1; have z3 := cc.2.2.2; clear h2 hX cc)
        | (go_at_call 44; (with_reducible refine (R1.out).mono ?_); rintro e w2 ⟨rfl, h2, hX⟩; have Q2 := Lib.hid h2; have B2 := Lib.hid ((hX W.heap.size (.inr rfl)).trans B1.out); have cc := cq_cells B2.out; have z0 := cc.1; have z1 := cc.2.1; have z2 := cc.2.2.1; have z3 := cc.2.2.2; clear h2 hX cc)
        | (go_at_call 44; (with_reducible refine (R2.out _ P2.out).mono ?_); rintro e w3 ⟨rfl, h3, hX⟩; have P3 := Lib.hid h3; have B3 := Lib.hid ((hX W.heap.size (.inr rfl)).trans B2.out); have cc := cq_cells B3.out; have z0 := cc.1; have z1 := cc.2.1; have z2 := cc.2.2.1; have z3 := cc.2.2.2; clear h3 hX cc)
        | (go_at_call 25; (with_reducible refine (A2.out _ Q2.out).mono ?_); rintro e w3 ⟨rfl, h3, hX⟩; have P3 := Lib.hid h3; have B3 := Lib.hid ((hX W.heap.size (.inr rfl)).trans B2.out); have cc := cq_cells B3.out; have z0 := cc.1; have z1 := cc.2.1; have z2 := cc.2.2.1; have z3 := cc.2.2.2; clear h3 hX cc))
    all_goals
      go_wp2
      go_ret2
      exact do_end P3.out H0.out
  · have e5 : (wh : Int) % 5 = 3 := by omega
    clear h5
    obtain ⟨E, hE⟩ : ∃ E, E = rowE cs.length tr.length m 4 x y k := ⟨_, rfl⟩
    obtain ⟨c1, hc1⟩ : ∃ c, c = if E = 0 then swRC m x.toNat y.toNat cs k.toNat else cs := ⟨_, rfl⟩
    obtain ⟨t1, ht1⟩ : ∃ t, t = if E = 0 then tr ++ swRT x.toNat y.toNat k.toNat else tr := ⟨_, rfl⟩
    have A1 := Lib.hid (pa_act P1.out fun F ar => SwapRows_any ar m x y k hm hx hy hk)
    have R1 := Lib.hid (pb_act P1.out fun F rr => rSwapRows_any rr hw m x y k hm hx hy hk)
    have A2 := Lib.hid (fun (w2 : World) (P2 : Pr w0 w2 (fun k => no k ∨ k = W.heap.size) pa pb cs [] tr c1 [] t1) => pa_act P2 fun F ar => SwapRows_any ar m x y k hm hx hy hk)
    have R2 := Lib.hid (fun (w2 : World) (P2 : Pr w0 w2 (fun k => no k ∨ k = W.heap.size) pa pb c1 [] t1 cs [] tr) => pb_act P2 fun F rr => rSwapRows_any rr hw m x y k hm hx hy hk)
    have H0 := Lib.hid (show c1.length = cs.length by rw [hc1]; split; exact swRC_len ..; rfl)
    rw [← hE, ← hc1, ← ht1] at A1 R1
    simp only [← hE, ← hc1, ← ht1] at A2 R2
    have y := cq_cells B1.out
    have y0 := y.1
    have y1 := y.2.1
    have y2 := y.2.2.1
    have y3 := y.2.2.2
    clear y hE hc1 ht1 hm hx hy hk hw
    go_enter Try.func21, Try.ntmps21
    go_wp2
    go_region_held3 (fun w' => w'.cell? ⟨W.heap.size, 0, none⟩ = some (.int .u64 (m : Int)) ∧ w'.cell? ⟨W.heap.size, 1, none⟩ = some (.int .i64 x) ∧ w'.cell? ⟨W.heap.size, 2, none⟩ = some (.int .i64 y) ∧ w'.cell? ⟨W.heap.size, 3, none⟩ = some (.int .i64 k))
      (first | exact ⟨y0, y1, y2, y3⟩ | exact ⟨z0, z1, z2, z3⟩)
      (first
        | (go_at_call 26; (with_reducible refine (A1.out).mono ?_); rintro e w2 ⟨rfl, h2, hX⟩; have P2 := Lib.hid h2; have B2 := Lib.hid ((hX W.heap.size (.inr rfl)).trans B1.out); have cc := cq_cells B2.out; have z0 := cc.1; have z1 := cc.2.1; have z2 := cc.2.2.1; have z3 := cc.2.2.2; clear h2 hX cc)
        | (go_at_call 45; (with_reducible refine (R1.out).mono ?_); rintro e w2 ⟨rfl, h2, hX⟩; have Q2 := Lib.hid h2; have B2 := Lib.hid ((hX W.heap.size (.inr rfl)).trans B1.out); have cc := cq_cells B2.out; have z0 := cc.1; have z1 := cc.2.1; have z2 := cc.2.2.1; have z3 := cc.2.2.2; clear h2 hX cc)
        | (go_at_call 45; (with_reducible refine (R2.out _ P2.out).mono ?_); rintro e w3 ⟨rfl, h3, hX⟩; have P3 := Lib.hid h3; have B3 := Lib.hid ((hX W.heap.size (.inr rfl)).trans B2.out); have cc := cq_cells B3.out; have z0 := cc.1; have z1 := cc.2.1; have z2 := cc.2.2.1; have z3 := cc.2.2.2; clear h3 hX cc)
        | (go_at_call 26; (with_reducible refine (A2.out _ Q2.out).mono ?_); rintro e w3 ⟨rfl, h3, hX⟩; have P3 := Lib.hid h3; have B3 := Lib.hid ((hX W.heap.size (.inr rfl)).trans B2.out); have cc := cq_cells B3.out; have z0 := cc.1; have z1 := cc.2.1; have z2 := cc.2.2.1; have z3 := cc.2.2.2; clear h3 hX cc))
    all_goals
      go_wp2
      go_ret2
      exact do_end P3.out H0.out
  · have e5 : (wh : Int) % 5 = 4 := by omega
    clear h5
    obtain ⟨E, hE⟩ : ∃ E, E = rowE cs.length tr.length m 3 x y k := ⟨_, rfl⟩
    obtain ⟨c1, hc1⟩ : ∃ c, c = if E = 0 then mvRC m x.toNat y.toNat cs k.toNat else cs := ⟨_, rfl⟩
    obtain ⟨t1, ht1⟩ : ∃ t, t = if E = 0 then tr ++ mvRT x.toNat y.toNat k.toNat else tr := ⟨_, rfl⟩
    have A1 := Lib.hid (pa_act P1.out fun F ar => MoveRows_any ar m x y k hm hx hy hk)
    have R1 := Lib.hid (pb_act P1.out fun F rr => rMoveRows_any rr hw m x y k hm hx hy hk)
    have A2 := Lib.hid (fun (w2 : World) (P2 : Pr w0 w2 (fun k => no k ∨ k = W.heap.size) pa pb cs [] tr c1 [] t1) => pa_act P2 fun F ar => MoveRows_any ar m x y k hm hx hy hk)
    have R2 := Lib.hid (fun (w2 : World) (P2 : Pr w0 w2 (fun k => no k ∨ k = W.heap.size) pa pb c1 [] t1 cs [] tr) => pb_act P2 fun F rr => rMoveRows_any rr hw m x y k hm hx hy hk)
    have H0 := Lib.hid (show c1.length = cs.length by rw [hc1]; split; exact mvRC_len ..; rfl)
    rw [← hE, ← hc1, ← ht1] at A1 R1
    simp only [← hE, ← hc1, ← ht1] at A2 R2
    have y := cq_cells B1.out
    have y0 := y.1
    have y1 := y.2.1
    have y2 := y.2.2.1
    have y3 := y.2.2.2
    clear y hE hc1 ht1 hm hx hy hk hw
    go_enter Try.func21, Try.ntmps21
    go_wp2
    go_region_held3 (fun w' => w'.cell? ⟨W.heap.size, 0, none⟩ = some (.int .u64 (m : Int)) ∧ w'.cell? ⟨W.heap.size, 1, none⟩ = some (.int .i64 x) ∧ w'.cell? ⟨W.heap.size, 2, none⟩ = some (.int .i64 y) ∧ w'.cell? ⟨W.heap.size, 3, none⟩ = some (.int .i64 k))
      (first | exact ⟨y0, y1, y2, y3⟩ | exact ⟨z0, z1, z2, z3⟩)
      (first
        | (go_at_call 27; (with_reducible refine (A1.out).mono ?_); rintro e w2 ⟨rfl, h2, hX⟩; have P2 := Lib.hid h2; have B2 := Lib.hid ((hX W.heap.size (.inr rfl)).trans B1.out); have cc := cq_cells B2.out; have z0 := cc.1; have z1 := cc.2.1; have z2 := cc.2.2.1; have z3 := cc.2.2.2; clear h2 hX cc)
        | (go_at_call 46; (with_reducible refine (R1.out).mono ?_); rintro e w2 ⟨rfl, h2, hX⟩; have Q2 := Lib.hid h2; have B2 := Lib.hid ((hX W.heap.size (.inr rfl)).trans B1.out); have cc := cq_cells B2.out; have z0 := cc.1; have z1 := cc.2.1; have z2 := cc.2.2.1; have z3 := cc.2.2.2; clear h2 hX cc)
        | (go_at_call 46; (with_reducible refine (R2.out _ P2.out).mono ?_); rintro e w3 ⟨rfl, h3, hX⟩; have P3 := Lib.hid h3; have B3 := Lib.hid ((hX W.heap.size (.inr rfl)).trans B2.out); have cc := cq_cells B3.out; have z0 := cc.1; have z1 := cc.2.1; have z2 := cc.2.2.1; have z3 := cc.2.2.2; clear h3 hX cc)
        | (go_at_call 27; (with_reducible refine (A2.out _ Q2.out).mono ?_); rintro e w3 ⟨rfl, h3, hX⟩; have P3 := Lib.hid h3; have B3 := Lib.hid ((hX W.heap.size (.inr rfl)).trans B2.out); have cc := cq_cells B3.out; have z0 := cc.1; have z1 := cc.2.1; have z2 := cc.2.2.1; have z3 := cc.2.2.2; clear h3 hX cc))
    all_goals
      go_wp2
      go_ret2
      exact do_end P3.out H0.out
end Go.Proofs.Ytjckkohmgalabaa
