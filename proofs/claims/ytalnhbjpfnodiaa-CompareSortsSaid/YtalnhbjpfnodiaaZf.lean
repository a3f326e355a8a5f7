/- SwapRows, MoveRows, in both arenas. -/
import Derived.Test.YtalnhbjpfnodiaaZe
namespace Go.Proofs.Ytalnhbjpfnodiaa
open Go.RowKit
def rowE (n t m : Nat) (st x y k : Int) : Int := ckR m (fun v => hasE n v k) (roomE t (st * k)) x y k
theorem row_ok {n t m : Nat} {st x y k : Int} (h : rowE n t m st x y k = 0) : isM m ∧ (∃ j : Nat, k = j ∧ 1 ≤ j ∧ j ≤ 64 ∧ (∃ a : Nat, x = a ∧ a + j ≤ n ∧ ∃ b : Nat, y = b ∧ b + j ≤ n ∧ (a + j ≤ b ∨ b + j ≤ a))) ∧ (t : Int) + st * k ≤ 8388608 := by
  unfold rowE ckR at h
  split at h
  · rename_i hM
    split at h
    · cases h
    · rename_i hk
      split at h
      · rename_i h2
        obtain ⟨h4, h5⟩ := hasF_two h2
        have h4 := hasE_zero h4
        have h5 := hasE_zero h5
        split at h
        · cases h
        · rename_i ho
          have h6 := roomE_zero h
          exact ⟨hM, ⟨k.toNat, by omega, by omega, by omega, x.toNat, by omega, by omega, y.toNat, by omega, by omega, by omega⟩, h6.2⟩
      · rename_i h2; exact absurd h h2
  · cases h
section
variable {w w' : World} {F : Nat → Prop} {p : Nat} {cs c' : List Nat} {rs : List Rg} {tr t' : List (Nat × Nat)}
theorem clo_swap (h : Ar w F p cs rs tr) (m a b i : Nat) (hm : m < 2 ^ 64) (ha : a + i < cs.length) (hb : b + i < cs.length) (hl : tr.length + 4 ≤ 8388608) (b1 b2 b3 b4 : Nat)
    (c1 : w.cell? ⟨b1, 0, none⟩ = some (.pointer (some ⟨p, 0, none⟩))) (c2 : w.cell? ⟨b2, 0, none⟩ = some (.int .u64 (m : Int))) (c3 : w.cell? ⟨b3, 0, none⟩ = some (.int .i64 (a : Int))) (c4 : w.cell? ⟨b4, 0, none⟩ = some (.int .i64 (b : Int))) :
    Calls Try.prog 88 #[.int .i64 (i : Int), .pointer (some ⟨b1, 0, none⟩), .pointer (some ⟨b2, 0, none⟩), .pointer (some ⟨b3, 0, none⟩), .pointer (some ⟨b4, 0, none⟩)] w fun e w' => e = .returned (.tuple #[]) ∧ Step w F p (swC m (a + i) (b + i) cs) rs (tr ++ swT (a + i) (b + i)) w' := by
  have hn : cs.length ≤ 65536 := by obtain ⟨_, _, _, _, hx⟩ := h; exact hx.ncs.2
  have SW := Lib.hid (swap_any h h.wcs m (a + i) (b + i) hm ha hb hl)
  have y1 : IntKind.i64.wrap ((a : Int) + (i : Int)) = ((a + i : Nat) : Int) := by rw [IntKind.wrap_i64]; omega
  have y2 : IntKind.i64.wrap ((b : Int) + (i : Int)) = ((b + i : Nat) : Int) := by rw [IntKind.wrap_i64]; omega
  clear ha hb hl hn hm h
  obtain ⟨ai, hai⟩ : ∃ z, z = a + i := ⟨_, rfl⟩
  obtain ⟨bi, hbi⟩ : ∃ z, z = b + i := ⟨_, rfl⟩
  rw [← hai] at SW y1 ⊢
  rw [← hbi] at SW y2 ⊢
  clear hai hbi
  go_enter Try.func88, Try.ntmps88
  go_wp2_with (first
    | (go_at_call 89; (with_reducible refine (SW.out).mono ?_); rintro e w2 ⟨rfl, hs2⟩))
  refine bodyPost_end (results_none rfl _ _ _) rfl ?_
  exact ⟨rfl, hs2⟩
set_option maxRecDepth 100000 in
theorem each_swap (h : Ar w F p cs rs tr) (m a b n : Nat) (hm : m < 2 ^ 64) (ha : a + n ≤ cs.length) (hb : b + n ≤ cs.length) (hl : tr.length + 4 * n ≤ 8388608) (hn : n ≤ 64) (b1 b2 b3 b4 : Nat)
    (g1 : b1 < w.heap.size ∧ ¬ F b1) (g2 : b2 < w.heap.size ∧ ¬ F b2) (g3 : b3 < w.heap.size ∧ ¬ F b3) (g4 : b4 < w.heap.size ∧ ¬ F b4)
    (c1 : w.cell? ⟨b1, 0, none⟩ = some (.pointer (some ⟨p, 0, none⟩))) (c2 : w.cell? ⟨b2, 0, none⟩ = some (.int .u64 (m : Int))) (c3 : w.cell? ⟨b3, 0, none⟩ = some (.int .i64 (a : Int))) (c4 : w.cell? ⟨b4, 0, none⟩ = some (.int .i64 (b : Int))) :
    Calls Try.prog 87 #[.int .i64 (n : Int), .func (.func 88) #[] #[.pointer (some ⟨b1, 0, none⟩), .pointer (some ⟨b2, 0, none⟩), .pointer (some ⟨b3, 0, none⟩), .pointer (some ⟨b4, 0, none⟩)]] w fun e w' => e = .returned (.tuple #[]) ∧ Step w F p (swRC m a b cs n) rs (tr ++ swRT a b n) w' := by
  have C1 := Lib.hid c1
  have C2 := Lib.hid c2
  have C3 := Lib.hid c3
  have C4 := Lib.hid c4
  have HH := Lib.hid h
  have HA := Lib.hid ha
  have HB := Lib.hid hb
  have HL := Lib.hid hl
  have HM := Lib.hid hm
  have B1 := Lib.hid g1
  have B2 := Lib.hid g2
  have B3 := Lib.hid g3
  have B4 := Lib.hid g4
  clear c1 c2 c3 c4 h ha hb hl hm g1 g2 g3 g4
  go_enter Try.func87, Try.ntmps87
  go_wp2
  go_loopw [6] (fun i wr => ∃ k : Nat, k ≤ n ∧ i = .int .i64 (k : Int) ∧ Hid (Step w F p (swRC m a b cs k) rs (tr ++ swRT a b k) wr)) (fun i _ => n - (intOf i).toNat)
  case atStart => exact ⟨0, Nat.zero_le _, rfl, Lib.hid (by rw [show tr ++ swRT a b 0 = tr from List.append_nil _]; exact .stay HH.out (Below.refl _ _))⟩
  case round =>
    obtain ⟨k, hk, rfl, hs⟩ := hrel
    by_cases hlt : k < n
    · have t1 : decide ((k : Int) < (n : Int)) = true := decide_eq_true (by omega)
      have t1' : (k : Int) < (n : Int) := by omega
      obtain ⟨F1, e1, a1, k1⟩ := hs.out
      have x1 := (k1.cell (p := ⟨b1, 0, none⟩) B1.out.1 B1.out.2).trans C1.out
      have x2 := (k1.cell (p := ⟨b2, 0, none⟩) B2.out.1 B2.out.2).trans C2.out
      have x3 := (k1.cell (p := ⟨b3, 0, none⟩) B3.out.1 B3.out.2).trans C3.out
      have x4 := (k1.cell (p := ⟨b4, 0, none⟩) B4.out.1 B4.out.2).trans C4.out
      have SW := Lib.hid (clo_swap a1 m a b k HM.out (by rw [swRC_len]; have := HA.out; omega) (by rw [swRC_len]; have := HB.out; omega) (by rw [List.length_append, swRT_len]; have := HL.out; omega) b1 b2 b3 b4 x1 x2 x3 x4)
      have Q1 := Lib.hid (And.intro e1 k1)
      clear hs e1 a1 k1 x1 x2 x3 x4
      go_wp2_with (first
        | (go_at_call 88; (with_reducible refine (SW.out).mono ?_); rintro e w2 ⟨rfl, hs2⟩; have S2 := Lib.hid hs2; clear hs2))
      go_roundw
      case rel =>
        refine ⟨k + 1, by omega, by go_num, Lib.hid ?_⟩
        have := Step.trans Q1.out.1 Q1.out.2 S2.out
        rw [List.append_assoc] at this
        exact this
      case measure => simp [intOf]; omega
    · obtain rfl : k = n := by omega
      have t1 : decide ((k : Int) < (k : Int)) = false := decide_eq_false (by omega)
      go_wp2
      refine bodyPost_end (results_none rfl _ _ _) rfl ?_
      exact ⟨rfl, hs.out⟩
def boxW (w : World) (p m : Nat) (x y : Int) : World := (((w.alloc (.cells #[.pointer (some ⟨p, 0, none⟩)] 30)).alloc (.cells #[.int .u64 (m : Int)] 22)).alloc (.cells #[.int .i64 x] 3)).alloc (.cells #[.int .i64 y] 3)
theorem box_below (w : World) (p m : Nat) (x y : Int) : Below w.heap.size w (boxW w p m x y) :=
  ((((Below.refl _ w).alloc (Nat.le_refl _) _).alloc (by simp) _).alloc (by simp; omega) _).alloc (by simp; omega) _
theorem box_size (w : World) (p m : Nat) (x y : Int) : (boxW w p m x y).heap.size = w.heap.size + 1 + 1 + 1 + 1 := by simp [boxW]
theorem box_cells (w : World) (p m : Nat) (x y : Int) : (boxW w p m x y).cell? ⟨w.heap.size, 0, none⟩ = some (.pointer (some ⟨p, 0, none⟩)) ∧ (boxW w p m x y).cell? ⟨w.heap.size + 1, 0, none⟩ = some (.int .u64 (m : Int)) ∧
    (boxW w p m x y).cell? ⟨w.heap.size + 1 + 1, 0, none⟩ = some (.int .i64 x) ∧ (boxW w p m x y).cell? ⟨w.heap.size + 1 + 1 + 1, 0, none⟩ = some (.int .i64 y) := by
  have e0 := heap_alloc_new w (.cells #[.pointer (some ⟨p, 0, none⟩)] 30)
  obtain ⟨w1, h1⟩ : ∃ W, W = w.alloc (.cells #[.pointer (some ⟨p, 0, none⟩)] 30) := ⟨_, rfl⟩
  have s1 : w1.heap.size = w.heap.size + 1 := by rw [h1]; simp
  have e1 := heap_alloc_new w1 (.cells #[.int .u64 (m : Int)] 22)
  obtain ⟨w2, h2⟩ : ∃ W, W = w1.alloc (.cells #[.int .u64 (m : Int)] 22) := ⟨_, rfl⟩
  have s2 : w2.heap.size = w1.heap.size + 1 := by rw [h2]; simp
  have e2 := heap_alloc_new w2 (.cells #[.int .i64 x] 3)
  obtain ⟨w3, h3⟩ : ∃ W, W = w2.alloc (.cells #[.int .i64 x] 3) := ⟨_, rfl⟩
  have s3 : w3.heap.size = w2.heap.size + 1 := by rw [h3]; simp
  have e3 := heap_alloc_new w3 (.cells #[.int .i64 y] 3)
  have hb : boxW w p m x y = w3.alloc (.cells #[.int .i64 y] 3) := by rw [h3, h2, h1]; rfl
  rw [← h1] at e0
  rw [← h2] at e1
  rw [← h3] at e2
  have b2 := Below.heap_alloc w1 (.cells #[.int .u64 (m : Int)] 22)
  have b3 := Below.heap_alloc w2 (.cells #[.int .i64 x] 3)
  have b4 := Below.heap_alloc w3 (.cells #[.int .i64 y] 3)
  rw [← h2] at b2
  rw [← h3] at b3
  rw [← hb] at b4 e3
  refine ⟨cell_blk ((b4 _ (by omega)).trans ((b3 _ (by omega)).trans ((b2 _ (by omega)).trans e0))) 0, ?_, ?_, ?_⟩
  · rw [← s1]; exact cell_blk ((b4 _ (by omega)).trans ((b3 _ (by omega)).trans e1)) 0
  · rw [← s1, ← s2]; exact cell_blk ((b4 _ (by omega)).trans e2) 0
  · rw [← s1, ← s2, ← s3]; exact cell_blk e3 0
theorem AcP.after {w1 : World} {E : Int} (hb : Below w.heap.size w w1) {e : Ending} (h : AcP w1 F p cs rs tr E c' t' e w') : AcP w F p cs rs tr E c' t' e w' := by
  obtain ⟨h1, F2, e2, a2, k2⟩ := h
  exact ⟨h1, F2, fun k hk => by rcases e2 k hk with h3 | h3; exact .inl h3; exact .inr (Nat.le_trans hb.size h3), a2, (Kept.of_below hb).trans k2 fun i hi => .inl hi⟩
theorem RcP.after {w1 : World} {E : Int} (hb : Below w.heap.size w w1) {e : Ending} (h : RcP w1 F p cs rs tr E c' t' e w') : RcP w F p cs rs tr E c' t' e w' := by
  obtain ⟨h1, F2, e2, a2, k2⟩ := h
  exact ⟨h1, F2, fun k hk => by rcases e2 k hk with h3 | h3; exact .inl h3; exact .inr (Nat.le_trans hb.size h3), a2, (Kept.of_below hb).trans k2 fun i hi => .inl hi⟩
set_option maxRecDepth 100000 in
theorem eb_swap (h : Ar w F p cs rs tr) (m a b n : Nat) (hm : m < 2 ^ 64) (ha : a + n ≤ cs.length) (hb : b + n ≤ cs.length) (hl : tr.length + 4 * n ≤ 8388608) (hn : n ≤ 64) {w5 : World} (h5 : Below (boxW w p m (a : Int) (b : Int)).heap.size (boxW w p m (a : Int) (b : Int)) w5) :
    Calls Try.prog 87 #[.int .i64 (n : Int), .func (.func 88) #[] #[.pointer (some ⟨w.heap.size, 0, none⟩), .pointer (some ⟨w.heap.size + 1, 0, none⟩), .pointer (some ⟨w.heap.size + 1 + 1, 0, none⟩), .pointer (some ⟨w.heap.size + 1 + 1 + 1, 0, none⟩)]] w5 fun e w' => e = .returned (.tuple #[]) ∧ AcP w F p cs rs tr 0 (swRC m a b cs n) (swRT a b n) (.returned (.int .i64 0)) w' := by
  have hlt := h.lt
  have hs := box_size w p m a b
  have hz := h5.size
  obtain ⟨x1, x2, x3, x4⟩ := box_cells w p m a b
  have hB := (box_below w p m a b).trans (h5.mono (box_below w p m a b).size)
  have h' : Ar w5 F p cs rs tr := h.below hB
  refine (each_swap h' m a b n hm ha hb hl hn _ _ _ _ ⟨by omega, fun hf => by have := hlt _ hf; omega⟩ ⟨by omega, fun hf => by have := hlt _ hf; omega⟩ ⟨by omega, fun hf => by have := hlt _ hf; omega⟩ ⟨by omega, fun hf => by have := hlt _ hf; omega⟩
    ((h5.cell (p := ⟨_, 0, none⟩) (by simp only; omega)).trans x1) ((h5.cell (p := ⟨_, 0, none⟩) (by simp only; omega)).trans x2) ((h5.cell (p := ⟨_, 0, none⟩) (by simp only; omega)).trans x3) ((h5.cell (p := ⟨_, 0, none⟩) (by simp only; omega)).trans x4)).mono ?_
  rintro e w' ⟨rfl, hst⟩
  exact ⟨rfl, AcP.after hB (AcP.ok hst)⟩
theorem ck_rows (h : Ar w F p cs rs tr) (m st : Nat) (x y k : Int) (hm : m < 2 ^ 64) (hst : st ≤ 4) (hx : i64R x) (hy : i64R y) {w4 : World} (hb : Below w.heap.size w w4) :
    Calls Try.prog 86 #[.pointer (some ⟨p, 0, none⟩), .int .u64 (m : Int), .int .i64 x, .int .i64 y, .int .i64 k, .int .i64 (st : Int)] w4 fun e w' => e = .returned (.int .i64 (rowE cs.length tr.length m st x y k)) ∧ Below w4.heap.size w4 w' := by
  have hn : cs.length ≤ 65536 := by obtain ⟨_, _, _, _, hx⟩ := h; exact hx.ncs.2
  have hw : ∀ W, Below w4.heap.size w4 W → Ar W F p cs rs tr := fun W h2 => h.below (hb.trans (h2.mono hb.size))
  by_cases hk : 1 ≤ k ∧ k ≤ 64
  · exact rows_any (.pointer (some ⟨p, 0, none⟩)) (fun v => hasE cs.length v k) (roomE tr.length (st * k)) m st x y k w4 hm hst hx hy (fun v hv => by have := hasE_zero hv; omega) (fun _ W h2 v hv => ar_has (hw W h2) v k hv) (fun _ W h2 => ar_room (hw W h2) _)
  · have e : rowE cs.length tr.length m st x y k = ckR m (fun _ => 1) 0 x y k := by unfold rowE ckR; rw [if_pos (show k < 1 ∨ 64 < k by omega), if_pos (show k < 1 ∨ 64 < k by omega)]
    rw [e]
    exact rows_any (.pointer (some ⟨p, 0, none⟩)) (fun _ => 1) 0 m st x y k w4 hm hst hx hy (fun v hv => by cases hv) (fun h2 => absurd h2 hk) (fun h2 => absurd h2 hk)
set_option maxRecDepth 100000 in
theorem SwapRows_any (h : Ar w F p cs rs tr) (m : Nat) (x y k : Int) (hm : m < 2 ^ 64) (hx : i64R x) (hy : i64R y) (hk : i64R k) : Calls Try.prog 77 #[.pointer (some ⟨p, 0, none⟩), .int .u64 (m : Int), .int .i64 x, .int .i64 y, .int .i64 k] w (AcP w F p cs rs tr (rowE cs.length tr.length m 4 x y k) (swRC m x.toNat y.toNat cs k.toNat) (swRT x.toNat y.toNat k.toNat)) := by
  have CK := Lib.hid (@ck_rows _ _ _ _ _ _ h m 4 x y k hm (by decide) hx hy _ (box_below w p m x y))
  try rw [show ((4 : Nat) : Int) = 4 from rfl] at CK
  unfold boxW at CK
  obtain ⟨E, hE⟩ : ∃ E, E = rowE cs.length tr.length m 4 x y k := ⟨_, rfl⟩
  have HE := Lib.hid hE
  rw [← hE] at CK
  by_cases h0 : E = 0
  · obtain ⟨hM, ⟨n, rfl, hn1, hn2, a, rfl, ha, b, rfl, hb, _⟩, hl⟩ := row_ok (hE.symm.trans h0)
    subst h0
    have EA := Lib.hid (fun w5 h5 => @eb_swap _ _ _ _ _ _ h m a b n hm ha hb (by omega) hn2 w5 h5)
    unfold boxW at EA
    clear hE hM ha hb hl hx hy hk hn1 hn2
    go_enter Try.func77, Try.ntmps77
    go_wp2_with (first
      | (go_at_call 86; (with_reducible refine (CK.out).mono ?_); rintro e w5 ⟨rfl, h5⟩; have H5 := Lib.hid h5; clear h5)
      | (go_at_call 87; (with_reducible refine (EA.out _ H5.out).mono ?_); rintro e w6 ⟨rfl, h6⟩; have H6 := Lib.hid h6; clear h6))
    go_ret
    rw [← HE.out, Int.toNat_natCast, Int.toNat_natCast, Int.toNat_natCast]
    exact H6.out
  · have t2 : (E != 0) = true := by rw [bne_iff_ne]; exact h0
    have H0 := Lib.hid h0
    clear hE h0 hx hy hk
    go_enter Try.func77, Try.ntmps77
    go_wp2_with (first
      | (go_at_call 86; (with_reducible refine (CK.out).mono ?_); rintro e w5 ⟨rfl, h5⟩; have H5 := Lib.hid h5; clear h5))
    go_ret
    rw [← HE.out]
    exact AcP.no H0.out h ((box_below w p m x y).trans (H5.out.mono (box_below w p m x y).size))
end
end Go.Proofs.Ytalnhbjpfnodiaa
