/- A call of both arenas. -/
import Derived.Test.YtalnhbjpfnodiaaYl
import Derived.Test.YtalnhbjpfnodiaaZo
namespace Go.Proofs.Ytalnhbjpfnodiaa
open Go.RowKit
structure Cc where
  x : Int
  y : Int
  k : Int
def Cc.ok (c : Cc) : Prop := i64R c.x ∧ i64R c.y ∧ i64R c.k
def ccA (c : Cc) : Value := .agg #[.int .i64 c.x, .int .i64 c.y, .int .i64 c.k]
abbrev ccO (x y k : Int) : Obj := .cells #[.int .i64 x, .int .i64 y, .int .i64 k] 36
theorem cc_cells {W : World} {B : Nat} {x y k : Int} (h : W.heap[B]? = some (ccO x y k)) : W.cell? ⟨B, 0, none⟩ = some (.int .i64 x) ∧ W.cell? ⟨B, 1, none⟩ = some (.int .i64 y) ∧ W.cell? ⟨B, 2, none⟩ = some (.int .i64 k) :=
  ⟨cell_blk h 0, cell_blk h 1, cell_blk h 2⟩
def DoPost8 (w0 : World) (pa pb : Nat) (cs : List Nat) (e : Ending) (W' : World) : Prop :=
  e = .returned (.bool true) ∧ ∃ cs' tr', Pr w0 W' no pa pb cs' [] tr' cs' [] tr' ∧ cs'.length = cs.length
theorem do8_end {w0 W' : World} {X : Nat → Prop} {pa pb : Nat} {cs cs' : List Nat} {tr' : List (Nat × Nat)} (h : Pr w0 W' X pa pb cs' [] tr' cs' [] tr') (h1 : cs'.length = cs.length) : DoPost8 w0 pa pb cs (.returned (.bool true)) W' :=
  ⟨rfl, _, _, h.less (fun _ h => h.elim), h1⟩
set_option maxRecDepth 100000 in
set_option maxHeartbeats 8000000 in
theorem do_any {w0 W : World} {pa pb : Nat} {cs : List Nat} {tr : List (Nat × Nat)} (h : Pr w0 W no pa pb cs [] tr cs [] tr) (wh : Nat) (c : Cc) (hc : c.ok) :
    Calls Try.prog 23 #[.pointer (some ⟨pa, 0, none⟩), .pointer (some ⟨pb, 0, none⟩), .int .u8 (wh : Int), ccA c] W (DoPost8 w0 pa pb cs) := by
  obtain ⟨x, y, k⟩ := c
  obtain ⟨hx, hy, hk⟩ := hc
  unfold ccA
  dsimp only at hx hy hk ⊢
  have hw := h.wcs
  have P1d := Lib.hid ((h.fresh (ccO x y k)).below ((Below.refl _ (W.alloc (ccO x y k))).drew))
  have P1 := Lib.hid (h.fresh (ccO x y k))
  have B1 := Lib.hid (heap_alloc_new W (ccO x y k))
  clear h
  have h5 : wh % 4 = 0 ∨ wh % 4 = 1 ∨ wh % 4 = 2 ∨ wh % 4 = 3 := by omega
  rcases h5 with h5 | h5 | h5 | h5
  · have e5 : (wh : Int) % 4 = 0 := by omega
    clear h5 P1d
    obtain ⟨E, hE⟩ : ∃ E, E = cmE cs.length tr.length x y k := ⟨_, rfl⟩
    obtain ⟨t1, ht1⟩ : ∃ t, t = if E = 0 then tr ++ cmT x.toNat y.toNat k.toNat else tr := ⟨_, rfl⟩
    obtain ⟨m, hm⟩ : ∃ m, m = (if E = 0 then eqO (cmO cs x y k) else 0) := ⟨_, rfl⟩
    have A1 := Lib.hid (pa_mask P1.out fun F ar => EqualRows_any ar x y k hx hy)
    have R2 := Lib.hid (fun (w2 : World) (P2 : Pr w0 w2 (fun k => no k ∨ k = W.heap.size) pa pb cs [] t1 cs [] tr) => pb_mask P2 fun F rr => rEqualRows_any rr x y k hx hy)
    unfold mvE2 at A1 R2
    rw [← hE, ← ht1, ← hm] at A1
    simp only [← hE, ← ht1, ← hm] at R2
    have y := cc_cells B1.out
    have y0 := y.1
    have y1 := y.2.1
    have y2 := y.2.2
    clear y hE ht1 hm hx hy hk hw
    go_enter Try.func23, Try.ntmps23
    go_wp2_with (first
      | (go_at_call 26; (with_reducible refine (A1.out).mono ?_); rintro e w2 ⟨rfl, h2, hX⟩; have P2 := Lib.hid h2; have B2 := Lib.hid ((hX W.heap.size (.inr rfl)).trans B1.out); have cc := cc_cells B2.out; have z0 := cc.1; have z1 := cc.2.1; have z2 := cc.2.2; clear h2 hX cc)
      | (go_at_call 45; (with_reducible refine (R2.out _ P2.out).mono ?_); rintro e w3 ⟨rfl, h3, hX⟩; have P3 := Lib.hid h3; clear h3 hX))
    go_ret
    exact do8_end P3.out rfl
  · have e5 : (wh : Int) % 4 = 1 := by omega
    clear h5 P1d
    obtain ⟨E, hE⟩ : ∃ E, E = cmE cs.length tr.length x y k := ⟨_, rfl⟩
    obtain ⟨t1, ht1⟩ : ∃ t, t = if E = 0 then tr ++ cmT x.toNat y.toNat k.toNat else tr := ⟨_, rfl⟩
    obtain ⟨m, hm⟩ : ∃ m, m = (if E = 0 then ltO (cmO cs x y k) else 0) := ⟨_, rfl⟩
    have A1 := Lib.hid (pa_mask P1.out fun F ar => LessRows_any ar x y k hx hy)
    have R2 := Lib.hid (fun (w2 : World) (P2 : Pr w0 w2 (fun k => no k ∨ k = W.heap.size) pa pb cs [] t1 cs [] tr) => pb_mask P2 fun F rr => rLessRows_any rr x y k hx hy)
    unfold mvE2 at A1 R2
    rw [← hE, ← ht1, ← hm] at A1
    simp only [← hE, ← ht1, ← hm] at R2
    have y := cc_cells B1.out
    have y0 := y.1
    have y1 := y.2.1
    have y2 := y.2.2
    clear y hE ht1 hm hx hy hk hw
    go_enter Try.func23, Try.ntmps23
    go_wp2_with (first
      | (go_at_call 25; (with_reducible refine (A1.out).mono ?_); rintro e w2 ⟨rfl, h2, hX⟩; have P2 := Lib.hid h2; have B2 := Lib.hid ((hX W.heap.size (.inr rfl)).trans B1.out); have cc := cc_cells B2.out; have z0 := cc.1; have z1 := cc.2.1; have z2 := cc.2.2; clear h2 hX cc)
      | (go_at_call 46; (with_reducible refine (R2.out _ P2.out).mono ?_); rintro e w3 ⟨rfl, h3, hX⟩; have P3 := Lib.hid h3; clear h3 hX))
    go_ret
    exact do8_end P3.out rfl
  · have e5 : (wh : Int) % 4 = 2 := by omega
    replace P1 := P1d
    clear h5 P1d
    obtain ⟨E, hE⟩ : ∃ E, E = exE cs.length tr.length x y k := ⟨_, rfl⟩
    obtain ⟨c1, hc1⟩ : ∃ c, c = if E = 0 then exC x.toNat y.toNat k.toNat cs else cs := ⟨_, rfl⟩
    obtain ⟨t1, ht1⟩ : ∃ t, t = if E = 0 then tr ++ exT x.toNat y.toNat k.toNat else tr := ⟨_, rfl⟩
    have A1 := Lib.hid (pa_act P1.out fun F ar => Exchange_any ar x y k hx hy)
    have R1 := Lib.hid (pb_act P1.out fun F rr => rExchange_any rr hw x y k hx hy)
    have A2 := Lib.hid (fun (w2 : World) (P2 : Pr w0 w2 (fun k => no k ∨ k = W.heap.size) pa pb cs [] tr c1 [] t1) => pa_act P2 fun F ar => Exchange_any ar x y k hx hy)
    have R2 := Lib.hid (fun (w2 : World) (P2 : Pr w0 w2 (fun k => no k ∨ k = W.heap.size) pa pb c1 [] t1 cs [] tr) => pb_act P2 fun F rr => rExchange_any rr hw x y k hx hy)
    have H0 := Lib.hid (show c1.length = cs.length by rw [hc1]; split; exact exC_len ..; rfl)
    rw [← hE, ← hc1, ← ht1] at A1 R1
    simp only [← hE, ← hc1, ← ht1] at A2 R2
    have y := cc_cells B1.out
    have y0 := y.1
    have y1 := y.2.1
    have y2 := y.2.2
    clear y hE hc1 ht1 hx hy hk hw
    go_enter Try.func23, Try.ntmps23
    go_wp2
    go_region_held3 (fun w' => w'.cell? ⟨W.heap.size, 0, none⟩ = some (.int .i64 x) ∧ w'.cell? ⟨W.heap.size, 1, none⟩ = some (.int .i64 y) ∧ w'.cell? ⟨W.heap.size, 2, none⟩ = some (.int .i64 k))
      (first | exact ⟨y0, y1, y2⟩ | exact ⟨z0, z1, z2⟩)
      (first
        | (go_at_call 28; (with_reducible refine (A1.out).mono ?_); rintro e w2 ⟨rfl, h2, hX⟩; have P2 := Lib.hid h2; have B2 := Lib.hid ((hX W.heap.size (.inr rfl)).trans B1.out); have cc := cc_cells B2.out; have z0 := cc.1; have z1 := cc.2.1; have z2 := cc.2.2; clear h2 hX cc)
        | (go_at_call 47; (with_reducible refine (R1.out).mono ?_); rintro e w2 ⟨rfl, h2, hX⟩; have Q2 := Lib.hid h2; have B2 := Lib.hid ((hX W.heap.size (.inr rfl)).trans B1.out); have cc := cc_cells B2.out; have z0 := cc.1; have z1 := cc.2.1; have z2 := cc.2.2; clear h2 hX cc)
        | (go_at_call 47; (with_reducible refine (R2.out _ P2.out).mono ?_); rintro e w3 ⟨rfl, h3, hX⟩; have P3 := Lib.hid h3; have B3 := Lib.hid ((hX W.heap.size (.inr rfl)).trans B2.out); have cc := cc_cells B3.out; have z0 := cc.1; have z1 := cc.2.1; have z2 := cc.2.2; clear h3 hX cc)
        | (go_at_call 28; (with_reducible refine (A2.out _ Q2.out).mono ?_); rintro e w3 ⟨rfl, h3, hX⟩; have P3 := Lib.hid h3; have B3 := Lib.hid ((hX W.heap.size (.inr rfl)).trans B2.out); have cc := cc_cells B3.out; have z0 := cc.1; have z1 := cc.2.1; have z2 := cc.2.2; clear h3 hX cc))
    all_goals
      go_wp2
      go_ret
      exact do8_end P3.out H0.out
  · have e5 : (wh : Int) % 4 = 3 := by omega
    replace P1 := P1d
    clear h5 P1d
    obtain ⟨E, hE⟩ : ∃ E, E = soE cs.length tr.length x y k := ⟨_, rfl⟩
    obtain ⟨c1, hc1⟩ : ∃ c, c = if E = 0 then soC x.toNat k.toNat (netK (y.toNat - 1)) cs else cs := ⟨_, rfl⟩
    obtain ⟨t1, ht1⟩ : ∃ t, t = if E = 0 then tr ++ soT x.toNat k.toNat (netK (y.toNat - 1)) else tr := ⟨_, rfl⟩
    have A1 := Lib.hid (pa_act P1.out fun F ar => Sort_any ar x y k hx)
    have R1 := Lib.hid (pb_act P1.out fun F rr => rSort_any rr hw x y k hx)
    have A2 := Lib.hid (fun (w2 : World) (P2 : Pr w0 w2 (fun k => no k ∨ k = W.heap.size) pa pb cs [] tr c1 [] t1) => pa_act P2 fun F ar => Sort_any ar x y k hx)
    have R2 := Lib.hid (fun (w2 : World) (P2 : Pr w0 w2 (fun k => no k ∨ k = W.heap.size) pa pb c1 [] t1 cs [] tr) => pb_act P2 fun F rr => rSort_any rr hw x y k hx)
    have H0 := Lib.hid (show c1.length = cs.length by rw [hc1]; split; exact soC_len ..; rfl)
    rw [← hE, ← hc1, ← ht1] at A1 R1
    simp only [← hE, ← hc1, ← ht1] at A2 R2
    have y := cc_cells B1.out
    have y0 := y.1
    have y1 := y.2.1
    have y2 := y.2.2
    clear y hE hc1 ht1 hx hy hk hw
    go_enter Try.func23, Try.ntmps23
    go_wp2
    go_region_held3 (fun w' => w'.cell? ⟨W.heap.size, 0, none⟩ = some (.int .i64 x) ∧ w'.cell? ⟨W.heap.size, 1, none⟩ = some (.int .i64 y) ∧ w'.cell? ⟨W.heap.size, 2, none⟩ = some (.int .i64 k))
      (first | exact ⟨y0, y1, y2⟩ | exact ⟨z0, z1, z2⟩)
      (first
        | (go_at_call 29; (with_reducible refine (A1.out).mono ?_); rintro e w2 ⟨rfl, h2, hX⟩; have P2 := Lib.hid h2; have B2 := Lib.hid ((hX W.heap.size (.inr rfl)).trans B1.out); have cc := cc_cells B2.out; have z0 := cc.1; have z1 := cc.2.1; have z2 := cc.2.2; clear h2 hX cc)
        | (go_at_call 48; (with_reducible refine (R1.out).mono ?_); rintro e w2 ⟨rfl, h2, hX⟩; have Q2 := Lib.hid h2; have B2 := Lib.hid ((hX W.heap.size (.inr rfl)).trans B1.out); have cc := cc_cells B2.out; have z0 := cc.1; have z1 := cc.2.1; have z2 := cc.2.2; clear h2 hX cc)
        | (go_at_call 48; (with_reducible refine (R2.out _ P2.out).mono ?_); rintro e w3 ⟨rfl, h3, hX⟩; have P3 := Lib.hid h3; have B3 := Lib.hid ((hX W.heap.size (.inr rfl)).trans B2.out); have cc := cc_cells B3.out; have z0 := cc.1; have z1 := cc.2.1; have z2 := cc.2.2; clear h3 hX cc)
        | (go_at_call 29; (with_reducible refine (A2.out _ Q2.out).mono ?_); rintro e w3 ⟨rfl, h3, hX⟩; have P3 := Lib.hid h3; have B3 := Lib.hid ((hX W.heap.size (.inr rfl)).trans B2.out); have cc := cc_cells B3.out; have z0 := cc.1; have z1 := cc.2.1; have z2 := cc.2.2; clear h3 hX cc))
    all_goals
      go_wp2
      go_ret
      exact do8_end P3.out H0.out
-- arenas that are none
theorem ckr_nil (w : World) : Calls Try.prog 53 #[.pointer none, .int .i64 0, .int .i64 1, .int .i64 1] w fun e w' => e = .returned (.int .i64 1) ∧ w = w' :=
  ckr_any (.pointer none) (fun _ => 1) 0 1 1 w (i64_small _ (by decide)) (i64_small _ (by decide)) (fun _ v _ => has_nil v 1 w)
theorem rckr_nil (w : World) : Calls Try.prog 68 #[.pointer none, .int .i64 0, .int .i64 1, .int .i64 1] w fun e w' => e = .returned (.int .i64 1) ∧ w = w' :=
  rckr_any (.pointer none) (fun _ => 1) 0 1 1 w (i64_small _ (by decide)) (i64_small _ (by decide)) (fun _ v _ => rhas_nil v 1 w)
theorem cmp_nil (w : World) : Calls Try.prog 51 #[.pointer none, .int .i64 0, .int .i64 1, .int .i64 1] w fun e w' => e = .returned (.tuple #[.int .u64 0, .int .u64 0, .int .i64 1]) ∧ Below w.heap.size w w' := by
  obtain ⟨w2, hw2⟩ : ∃ W, W = (w.alloc (.cells #[.int .u64 0] 22)).alloc (.cells #[.int .u64 0] 22) := ⟨_, rfl⟩
  have hb2 : Below w.heap.size w w2 := by rw [hw2]; exact ((Below.refl _ w).alloc (Nat.le_refl _) _).alloc (by simp) _
  have b0 : Boxed w2 w.heap.size 22 (.int .u64 0) := by rw [hw2]; exact (Boxed.new w _ _).alloc _
  have b1 : Boxed w2 (w.heap.size + 1) 22 (.int .u64 0) := by
    have := Boxed.new (w.alloc (.cells #[.int .u64 0] 22)) 22 (.int .u64 0)
    rw [World.size_alloc] at this
    rw [hw2]; exact this
  have HW2 := Lib.hid hw2
  have CK := Lib.hid (ckr_nil w2)
  have PUT0 := Lib.hid (show Below w.heap.size w ((w2.setCell ⟨w.heap.size, 0, none⟩ (.int .u64 0)).setCell ⟨w.heap.size + 1, 0, none⟩ (.int .u64 0)) from (hb2.setCell (p := ⟨w.heap.size, 0, none⟩) (Nat.le_refl _) _).setCell (p := ⟨w.heap.size + 1, 0, none⟩) (by simp) _)
  have R0 := Lib.hid ((b0.set (.int .u64 0)).other (B' := w.heap.size + 1) (by omega) (.int .u64 0)).cell
  have R1 := Lib.hid ((b1.other (B' := w.heap.size) (by omega) (.int .u64 0)).set (.int .u64 0)).cell
  have c0 := b0.cell
  have c1 := b1.cell
  have f0 := b0.frozen
  have f1 := (b1.other (B' := w.heap.size) (by omega) (.int .u64 0)).frozen
  clear hw2 hb2 b0 b1
  go_enter Try.func51, Try.ntmps51
  go_wp2_with (first
    | (go_at_call 53; rw [← HW2.out]; (with_reducible refine (CK.out).mono ?_); rintro e w' ⟨rfl, rfl⟩))
  refine bodyPost_ret (results_cct rfl _ _ rfl rfl R0.out R1.out) rfl ?_
  exact ⟨rfl, PUT0.out⟩
theorem eqr_nil (w : World) : Calls Try.prog 26 #[.pointer none, .int .i64 0, .int .i64 1, .int .i64 1] w fun e w' => e = .returned (.tuple #[.int .u64 0, .int .i64 1]) ∧ Below w.heap.size w w' := by
  have CM := Lib.hid (cmp_nil w)
  go_enter Try.func26, Try.ntmps26
  go_wp2_with (first
    | (go_at_call 51; (with_reducible refine (CM.out).mono ?_); rintro e w1 ⟨rfl, hs⟩; have HS := Lib.hid hs; clear hs))
  go_ret2
  exact ⟨rfl, HS.out⟩
theorem ltr_nil (w : World) : Calls Try.prog 25 #[.pointer none, .int .i64 0, .int .i64 1, .int .i64 1] w fun e w' => e = .returned (.tuple #[.int .u64 0, .int .i64 1]) ∧ Below w.heap.size w w' := by
  have CM := Lib.hid (cmp_nil w)
  go_enter Try.func25, Try.ntmps25
  go_wp2_with (first
    | (go_at_call 51; (with_reducible refine (CM.out).mono ?_); rintro e w1 ⟨rfl, hs⟩; have HS := Lib.hid hs; clear hs))
  go_ret2
  exact ⟨rfl, HS.out⟩
theorem rcm_nil (w : World) : Calls Try.prog 67 #[.pointer none, .int .i64 0, .int .i64 1, .int .i64 1] w fun e w' => e = .returned (.tuple #[.int .i64 0, .int .i64 1]) ∧ w = w' := by
  have CK := Lib.hid (rckr_nil w)
  go_enter Try.func67, Try.ntmps67
  go_wp2_with (first
    | (go_at_call 68; (with_reducible refine (CK.out).mono ?_); rintro e w' ⟨rfl, rfl⟩))
  go_ret2
  exact ⟨rfl, rfl⟩
theorem reqr_nil (w : World) : Calls Try.prog 45 #[.pointer none, .int .i64 0, .int .i64 1, .int .i64 1] w fun e w' => e = .returned (.tuple #[.int .u64 0, .int .i64 1]) ∧ w = w' := by
  have CM := Lib.hid (rcm_nil w)
  go_enter Try.func45, Try.ntmps45
  go_wp2_with (first
    | (go_at_call 67; (with_reducible refine (CM.out).mono ?_); rintro e w1 ⟨rfl, rfl⟩))
  go_ret2
  exact ⟨rfl, rfl⟩
theorem rltr_nil (w : World) : Calls Try.prog 46 #[.pointer none, .int .i64 0, .int .i64 1, .int .i64 1] w fun e w' => e = .returned (.tuple #[.int .u64 0, .int .i64 1]) ∧ w = w' := by
  have CM := Lib.hid (rcm_nil w)
  go_enter Try.func46, Try.ntmps46
  go_wp2_with (first
    | (go_at_call 67; (with_reducible refine (CM.out).mono ?_); rintro e w1 ⟨rfl, rfl⟩))
  go_ret2
  exact ⟨rfl, rfl⟩
theorem ex_nil (w : World) : Calls Try.prog 28 #[.pointer none, .int .i64 0, .int .i64 1, .int .i64 1] w fun e w' => e = .returned (.int .i64 1) ∧ w' = w := by
  have CK := Lib.hid (ckr_nil w)
  go_enter Try.func28, Try.ntmps28
  go_wp2_with (first
    | (go_at_call 53; (with_reducible refine (CK.out).mono ?_); rintro e w' ⟨rfl, rfl⟩))
  go_ret
  exact ⟨rfl, rfl⟩
theorem rex_nil (w : World) : Calls Try.prog 47 #[.pointer none, .int .i64 0, .int .i64 1, .int .i64 1] w fun e w' => e = .returned (.int .i64 1) ∧ w' = w := by
  have CK := Lib.hid (rckr_nil w)
  go_enter Try.func47, Try.ntmps47
  go_wp2_with (first
    | (go_at_call 68; (with_reducible refine (CK.out).mono ?_); rintro e w' ⟨rfl, rfl⟩))
  go_ret
  exact ⟨rfl, rfl⟩
theorem istable_one (w : World) : Calls Try.prog 58 #[.int .i64 1, .int .i64 1] w fun e w' => e = .returned (.bool true) ∧ w = w' := istable_any 1 1 w
theorem so_nil (w : World) : Calls Try.prog 29 #[.pointer none, .int .i64 0, .int .i64 1, .int .i64 1] w fun e w' => e = .returned (.int .i64 1) ∧ Below w.heap.size w w' := by
  have IT := Lib.hid istable_one
  have HA := Lib.hid (has_nil 0 1)
  have B3 := Lib.hid (show Below w.heap.size w (((w.alloc (.cells #[.pointer none] 30)).alloc (.cells #[.int .i64 0] 3)).alloc (.cells #[.int .i64 1] 3)) from (((Below.refl _ w).alloc (Nat.le_refl _) _).alloc (by simp) _).alloc (by simp; omega) _)
  obtain ⟨w3, hw3⟩ : ∃ W, W = ((w.alloc (.cells #[.pointer none] 30)).alloc (.cells #[.int .i64 0] 3)).alloc (.cells #[.int .i64 1] 3) := ⟨_, rfl⟩
  have b1 := Boxed.new w 30 (.pointer none)
  have b2 := Boxed.new (w.alloc (.cells #[.pointer none] 30)) 3 (.int .i64 0)
  have b3 := Boxed.new ((w.alloc (.cells #[.pointer none] 30)).alloc (.cells #[.int .i64 0] 3)) 3 (.int .i64 1)
  simp only [World.size_alloc] at b2 b3
  have c0 := ((b1.alloc (.cells #[.int .i64 0] 3)).alloc (.cells #[.int .i64 1] 3)).cell
  have c1 := (b2.alloc (.cells #[.int .i64 1] 3)).cell
  have c2 := b3.cell
  rw [← hw3] at c0 c1 c2 B3
  have HW3 := Lib.hid hw3
  clear b1 b2 b3
  go_enter Try.func29, Try.ntmps29
  go_wp2_with (first
    | (go_at_call 58; rw [← HW3.out]; clear hw3; (with_reducible refine (IT.out _).mono ?_); rintro e w' ⟨rfl, rfl⟩)
    | (go_at_call 59; (with_reducible refine (HA.out _).mono ?_); rintro e w' ⟨rfl, rfl⟩))
  go_ret
  exact ⟨rfl, B3.out⟩
theorem rso_nil (w : World) : Calls Try.prog 48 #[.pointer none, .int .i64 0, .int .i64 1, .int .i64 1] w fun e w' => e = .returned (.int .i64 1) ∧ w = w' := by
  have HA := Lib.hid (rhas_nil 0 1)
  go_enter Try.func48, Try.ntmps48
  go_wp2_with (first
    | (go_at_call 71; (with_reducible refine (HA.out _).mono ?_); rintro e w' ⟨rfl, rfl⟩))
  go_ret
  exact ⟨rfl, rfl⟩
end Go.Proofs.Ytalnhbjpfnodiaa
