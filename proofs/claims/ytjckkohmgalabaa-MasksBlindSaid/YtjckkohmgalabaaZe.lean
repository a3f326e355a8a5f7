/- Swap, Move, Clear, in both arenas. -/
import Derived.Test.YtjckkohmgalabaaZd
namespace Go.Proofs.Ytjckkohmgalabaa
open Go.RowKit
def swE (n t m : Nat) (x y : Int) : Int := ckF m (fun v => hasE n v 1) (roomE t 4) [x, y]
def mvE (n t m : Nat) (x y : Int) : Int := ckF m (fun v => hasE n v 1) (roomE t 3) [x, y]
def clE (n t m : Nat) (x : Int) : Int := ckF m (fun v => hasE n v 1) (roomE t 2) [x]
theorem hasE_zero {n : Nat} {a k : Int} (h : hasE n a k = 0) : 0 ≤ k ∧ 0 ≤ a ∧ a + k ≤ n := by
  unfold hasE at h; split at h
  · cases h
  · omega
theorem roomE_zero {t : Nat} {k : Int} (h : roomE t k = 0) : 0 ≤ k ∧ (t : Int) + k ≤ 8388608 := by
  unfold roomE at h; split at h
  · cases h
  · split at h
    · cases h
    · omega
theorem ckF_zero {m : Nat} {f : Int → Int} {rm : Int} {l : List Int} (h : ckF m f rm l = 0) : isM m ∧ hasF f l = 0 ∧ rm = 0 := by
  unfold ckF at h; split at h
  · rename_i h1
    split at h
    · rename_i h2; exact ⟨h1, h2, h⟩
    · rename_i h2; exact absurd h h2
  · cases h
theorem ck_two {n t m : Nat} {s x y : Int} (h : ckF m (fun v => hasE n v 1) (roomE t s) [x, y] = 0) : isM m ∧ (∃ a : Nat, x = a ∧ a < n) ∧ (∃ b : Nat, y = b ∧ b < n) ∧ (t : Int) + s ≤ 8388608 := by
  obtain ⟨h1, h2, h3⟩ := ckF_zero h
  obtain ⟨h4, h5⟩ := hasF_two h2
  have h4 := hasE_zero h4
  have h5 := hasE_zero h5
  have h6 := roomE_zero h3
  exact ⟨h1, ⟨x.toNat, by omega, by omega⟩, ⟨y.toNat, by omega, by omega⟩, h6.2⟩
theorem ck_one {n t m : Nat} {s x : Int} (h : ckF m (fun v => hasE n v 1) (roomE t s) [x] = 0) : isM m ∧ (∃ a : Nat, x = a ∧ a < n) ∧ (t : Int) + s ≤ 8388608 := by
  obtain ⟨h1, h2, h3⟩ := ckF_zero h
  have h4 : hasE n x 1 = 0 := by
    unfold hasF at h2; split at h2
    · rename_i h5; exact h5
    · rename_i h5; exact absurd h2 h5
  have h4 := hasE_zero h4
  have h6 := roomE_zero h3
  exact ⟨h1, ⟨x.toNat, by omega, by omega⟩, h6.2⟩
/-- What a call over the program's arena leaves: an error and nothing changed, or its cells and its steps. -/
def AcP (w : World) (F : Nat → Prop) (p : Nat) (cs : List Nat) (rs : List Rg) (tr : List (Nat × Nat)) (E : Int) (c' : List Nat) (t' : List (Nat × Nat)) (e : Ending) (w' : World) : Prop :=
  e = .returned (.int .i64 E) ∧ Step w F p (if E = 0 then c' else cs) rs (if E = 0 then tr ++ t' else tr) w'
def RcP (w : World) (F : Nat → Prop) (p : Nat) (cs : List Nat) (rs : List Rg) (tr : List (Nat × Nat)) (E : Int) (c' : List Nat) (t' : List (Nat × Nat)) (e : Ending) (w' : World) : Prop :=
  e = .returned (.int .i64 E) ∧ RStep w F p (if E = 0 then c' else cs) rs (if E = 0 then tr ++ t' else tr) w'
theorem cells_x (w : World) (x : Int) (t : TypeId) : ∀ (i : Nat) (v : Int), [x][i]? = some v → (w.alloc (.cells #[.int .i64 x] t)).cell? ⟨w.heap.size, i, none⟩ = some (.int .i64 v)
  | 0, v, h => by cases h; exact cell_blk (heap_alloc_new w _) 0
  | n + 1, v, h => by simp at h
section
variable {w w' : World} {F : Nat → Prop} {p : Nat} {cs c' : List Nat} {rs : List Rg} {tr t' : List (Nat × Nat)}
theorem AcP.ok (h : Step w F p c' rs (tr ++ t') w') : AcP w F p cs rs tr 0 c' t' (.returned (.int .i64 0)) w' := ⟨rfl, by rw [if_pos rfl, if_pos rfl]; exact h⟩
theorem AcP.no {E : Int} (h0 : ¬ E = 0) (h : Ar w F p cs rs tr) (hb : Below w.heap.size w w') : AcP w F p cs rs tr E c' t' (.returned (.int .i64 E)) w' := ⟨rfl, by rw [if_neg h0, if_neg h0]; exact .stay h hb⟩
theorem RcP.ok (h : RStep w F p c' rs (tr ++ t') w') : RcP w F p cs rs tr 0 c' t' (.returned (.int .i64 0)) w' := ⟨rfl, by rw [if_pos rfl, if_pos rfl]; exact h⟩
theorem RcP.no {E : Int} (h0 : ¬ E = 0) (h : Rb w F p cs rs tr) (hb : Below w.heap.size w w') : RcP w F p cs rs tr E c' t' (.returned (.int .i64 E)) w' := ⟨rfl, by rw [if_neg h0, if_neg h0]; exact .stay h hb⟩
theorem ar_has (h : Ar w F p cs rs tr) (a b : Int) (ha : i64R a) : Calls Try.prog 69 #[.pointer (some ⟨p, 0, none⟩), .int .i64 a, .int .i64 b] w fun e w' => e = .returned (.int .i64 (hasE cs.length a b)) ∧ w = w' := by
  obtain ⟨_, _, _, _, hx⟩ := h; exact has_any hx a b ha
theorem ar_room (h : Ar w F p cs rs tr) (a : Int) : Calls Try.prog 70 #[.pointer (some ⟨p, 0, none⟩), .int .i64 a] w fun e w' => e = .returned (.int .i64 (roomE tr.length a)) ∧ w = w' := by
  obtain ⟨_, _, _, _, hx⟩ := h; exact room_any hx a
theorem rb_has (h : Rb w F p cs rs tr) (a b : Int) (ha : i64R a) : Calls Try.prog 75 #[.pointer (some ⟨p, 0, none⟩), .int .i64 a, .int .i64 b] w fun e w' => e = .returned (.int .i64 (hasE cs.length a b)) ∧ w = w' := by
  obtain ⟨_, _, _, hx⟩ := h; exact rhas_any hx a b ha
theorem rb_room (h : Rb w F p cs rs tr) (a : Int) : Calls Try.prog 76 #[.pointer (some ⟨p, 0, none⟩), .int .i64 a] w fun e w' => e = .returned (.int .i64 (roomE tr.length a)) ∧ w = w' := by
  obtain ⟨_, _, _, hx⟩ := h; exact rroom_any hx a
theorem r_two {x y : Int} (hx : i64R x) (hy : i64R y) : ∀ v ∈ [x, y], i64R v := by
  intro v hv
  simp only [List.mem_cons, List.not_mem_nil, or_false] at hv
  rcases hv with rfl | rfl
  · exact hx
  · exact hy
theorem below_alloc (w : World) (o : Obj) : Below w.heap.size w (w.alloc o) := (Below.refl _ w).alloc (Nat.le_refl _) o
/-- The error of two cells. -/
theorem ck_xy (h : Ar w F p cs rs tr) (m st : Nat) (x y : Int) (hm : m < 2 ^ 64) (hx : i64R x) (hy : i64R y) :
    Calls Try.prog 49 #[.pointer (some ⟨p, 0, none⟩), .int .u64 (m : Int), .int .i64 (st : Int), .slice (some ⟨w.heap.size, 0, none⟩) 2 2] (w.alloc (.cells #[.int .i64 x, .int .i64 y] 3)) fun e w' => e = .returned (.int .i64 (ckF m (fun v => hasE cs.length v 1) (roomE tr.length st) [x, y])) ∧ w.alloc (.cells #[.int .i64 x, .int .i64 y] 3) = w' :=
  check_any (.pointer (some ⟨p, 0, none⟩)) (fun v => hasE cs.length v 1) (roomE tr.length st) m st w.heap.size [x, y] _ hm (by simp) (r_two hx hy) (cells_xy w x y _) (fun v hv => ar_has (h.below (below_alloc w _)) v 1 hv) (ar_room (h.below (below_alloc w _)) st)
theorem ck_x (h : Ar w F p cs rs tr) (m st : Nat) (x : Int) (hm : m < 2 ^ 64) (hx : i64R x) :
    Calls Try.prog 49 #[.pointer (some ⟨p, 0, none⟩), .int .u64 (m : Int), .int .i64 (st : Int), .slice (some ⟨w.heap.size, 0, none⟩) 1 1] (w.alloc (.cells #[.int .i64 x] 3)) fun e w' => e = .returned (.int .i64 (ckF m (fun v => hasE cs.length v 1) (roomE tr.length st) [x])) ∧ w.alloc (.cells #[.int .i64 x] 3) = w' :=
  check_any (.pointer (some ⟨p, 0, none⟩)) (fun v => hasE cs.length v 1) (roomE tr.length st) m st w.heap.size [x] _ hm (by simp) (fun v hv => List.mem_singleton.1 hv ▸ hx) (cells_x w x _) (fun v hv => ar_has (h.below (below_alloc w _)) v 1 hv) (ar_room (h.below (below_alloc w _)) st)
theorem as_xy (h : Rb w F p cs rs tr) (m : Nat) (q st x y : Int) (hm : m < 2 ^ 64) (hx : i64R x) (hy : i64R y) :
    Calls Try.prog 62 #[.pointer (some ⟨p, 0, none⟩), .int .u64 (m : Int), .slice (some ⟨w.heap.size, 0, none⟩) 2 2, .int .i64 q, .int .i64 st] (w.alloc (.cells #[.int .i64 x, .int .i64 y] 3)) fun e w' => e = .returned (.int .i64 (ckF m (fun v => hasE cs.length v q) (roomE tr.length st) [x, y])) ∧ w.alloc (.cells #[.int .i64 x, .int .i64 y] 3) = w' :=
  asked_any (.pointer (some ⟨p, 0, none⟩)) (fun v => hasE cs.length v q) (roomE tr.length st) m w.heap.size st q [x, y] _ hm (by simp) (r_two hx hy) (cells_xy w x y _) (fun v hv => rb_has (h.below (below_alloc w _)) v q hv) (rb_room (h.below (below_alloc w _)) st)
theorem as_x (h : Rb w F p cs rs tr) (m : Nat) (q st x : Int) (hm : m < 2 ^ 64) (hx : i64R x) :
    Calls Try.prog 62 #[.pointer (some ⟨p, 0, none⟩), .int .u64 (m : Int), .slice (some ⟨w.heap.size, 0, none⟩) 1 1, .int .i64 q, .int .i64 st] (w.alloc (.cells #[.int .i64 x] 3)) fun e w' => e = .returned (.int .i64 (ckF m (fun v => hasE cs.length v q) (roomE tr.length st) [x])) ∧ w.alloc (.cells #[.int .i64 x] 3) = w' :=
  asked_any (.pointer (some ⟨p, 0, none⟩)) (fun v => hasE cs.length v q) (roomE tr.length st) m w.heap.size st q [x] _ hm (by simp) (fun v hv => List.mem_singleton.1 hv ▸ hx) (cells_x w x _) (fun v hv => rb_has (h.below (below_alloc w _)) v q hv) (rb_room (h.below (below_alloc w _)) st)
theorem Swap_any (h : Ar w F p cs rs tr) (m : Nat) (x y : Int) (hm : m < 2 ^ 64) (hx : i64R x) (hy : i64R y) : Calls Try.prog 23 #[.pointer (some ⟨p, 0, none⟩), .int .u64 (m : Int), .int .i64 x, .int .i64 y] w (AcP w F p cs rs tr (swE cs.length tr.length m x y) (swC m x.toNat y.toNat cs) (swT x.toNat y.toNat)) := by
  have hw := h.wcs
  have CK := Lib.hid (ck_xy h m 4 x y hm hx hy)
  try rw [show ((4 : Nat) : Int) = 4 from rfl] at CK
  obtain ⟨E, hE⟩ : ∃ E, E = swE cs.length tr.length m x y := ⟨_, rfl⟩
  have HE := Lib.hid hE
  unfold swE at hE
  rw [← hE] at CK
  by_cases h0 : E = 0
  · obtain ⟨hM, ⟨a, rfl, ha⟩, ⟨b, rfl, hb⟩, hl⟩ := ck_two (hE.symm.trans h0)
    subst h0
    have SW := Lib.hid (swap_any (h.below (below_alloc w (.cells #[.int .i64 (a : Int), .int .i64 (b : Int)] 3))) hw m a b hm ha hb (by omega))
    clear hE hM ha hb hl hx hy
    go_enter Try.func23, Try.ntmps23
    go_wp2_with (first
      | (go_at_call 49; (with_reducible refine (CK.out).mono ?_); rintro e w' ⟨rfl, rfl⟩)
      | (go_at_call 50; (with_reducible refine (SW.out).mono ?_); rintro e w2 ⟨rfl, hs⟩))
    go_ret
    rw [← HE.out, Int.toNat_natCast, Int.toNat_natCast]
    refine AcP.ok ?_
    obtain ⟨F2, e2, a2, k2⟩ := hs
    exact ⟨F2, fun k hk => by rcases e2 k hk with h1 | h1; exact .inl h1; exact .inr (Nat.le_trans (below_alloc w _).size h1), a2, (Kept.of_below (below_alloc w _)).trans k2 fun i hi => .inl hi⟩
  · have t2 : (E != 0) = true := by rw [bne_iff_ne]; exact h0
    have t3 : (E == 0) = false := by rw [beq_eq_false_iff_ne]; exact h0
    have H0 := Lib.hid h0
    clear hE h0 hx hy
    go_enter Try.func23, Try.ntmps23
    go_wp2_with (first
      | (go_at_call 49; (with_reducible refine (CK.out).mono ?_); rintro e w' ⟨rfl, rfl⟩))
    go_ret
    rw [← HE.out]
    exact AcP.no H0.out h (below_alloc w _)
theorem Move_any (h : Ar w F p cs rs tr) (m : Nat) (x y : Int) (hm : m < 2 ^ 64) (hx : i64R x) (hy : i64R y) : Calls Try.prog 24 #[.pointer (some ⟨p, 0, none⟩), .int .u64 (m : Int), .int .i64 x, .int .i64 y] w (AcP w F p cs rs tr (mvE cs.length tr.length m x y) (mvC m x.toNat y.toNat cs) (mvT x.toNat y.toNat)) := by
  have hw := h.wcs
  have CK := Lib.hid (ck_xy h m 3 x y hm hx hy)
  try rw [show ((3 : Nat) : Int) = 3 from rfl] at CK
  obtain ⟨E, hE⟩ : ∃ E, E = mvE cs.length tr.length m x y := ⟨_, rfl⟩
  have HE := Lib.hid hE
  unfold mvE at hE
  rw [← hE] at CK
  by_cases h0 : E = 0
  · obtain ⟨hM, ⟨a, rfl, ha⟩, ⟨b, rfl, hb⟩, hl⟩ := ck_two (hE.symm.trans h0)
    subst h0
    have SW := Lib.hid (move_any (h.below (below_alloc w (.cells #[.int .i64 (a : Int), .int .i64 (b : Int)] 3))) hw m a b hm ha hb (by omega))
    clear hE hM ha hb hl hx hy
    go_enter Try.func24, Try.ntmps24
    go_wp2_with (first
      | (go_at_call 49; (with_reducible refine (CK.out).mono ?_); rintro e w' ⟨rfl, rfl⟩)
      | (go_at_call 51; (with_reducible refine (SW.out).mono ?_); rintro e w2 ⟨rfl, hs⟩))
    go_ret
    rw [← HE.out, Int.toNat_natCast, Int.toNat_natCast]
    refine AcP.ok ?_
    obtain ⟨F2, e2, a2, k2⟩ := hs
    exact ⟨F2, fun k hk => by rcases e2 k hk with h1 | h1; exact .inl h1; exact .inr (Nat.le_trans (below_alloc w _).size h1), a2, (Kept.of_below (below_alloc w _)).trans k2 fun i hi => .inl hi⟩
  · have t2 : (E != 0) = true := by rw [bne_iff_ne]; exact h0
    have t3 : (E == 0) = false := by rw [beq_eq_false_iff_ne]; exact h0
    have H0 := Lib.hid h0
    clear hE h0 hx hy
    go_enter Try.func24, Try.ntmps24
    go_wp2_with (first
      | (go_at_call 49; (with_reducible refine (CK.out).mono ?_); rintro e w' ⟨rfl, rfl⟩))
    go_ret
    rw [← HE.out]
    exact AcP.no H0.out h (below_alloc w _)
theorem rSwap_any (h : Rb w F p cs rs tr) (hw : ∀ x ∈ cs, x < 2 ^ 64) (m : Nat) (x y : Int) (hm : m < 2 ^ 64) (hx : i64R x) (hy : i64R y) : Calls Try.prog 42 #[.pointer (some ⟨p, 0, none⟩), .int .u64 (m : Int), .int .i64 x, .int .i64 y] w (RcP w F p cs rs tr (swE cs.length tr.length m x y) (swC m x.toNat y.toNat cs) (swT x.toNat y.toNat)) := by
  have CK := Lib.hid (as_xy h m 1 4 x y hm hx hy)
  try rw [show ((4 : Nat) : Int) = 4 from rfl] at CK
  obtain ⟨E, hE⟩ : ∃ E, E = swE cs.length tr.length m x y := ⟨_, rfl⟩
  have HE := Lib.hid hE
  unfold swE at hE
  rw [← hE] at CK
  by_cases h0 : E = 0
  · obtain ⟨hM, ⟨a, rfl, ha⟩, ⟨b, rfl, hb⟩, hl⟩ := ck_two (hE.symm.trans h0)
    subst h0
    have SW := Lib.hid (rswap_any (h.below (below_alloc w (.cells #[.int .i64 (a : Int), .int .i64 (b : Int)] 3))) hw m a b hm ha hb (by omega))
    clear hE hM ha hb hl hx hy
    go_enter Try.func42, Try.ntmps42
    go_wp2_with (first
      | (go_at_call 62; (with_reducible refine (CK.out).mono ?_); rintro e w' ⟨rfl, rfl⟩)
      | (go_at_call 63; (with_reducible refine (SW.out).mono ?_); rintro e w2 ⟨rfl, hs⟩))
    go_ret
    rw [← HE.out, Int.toNat_natCast, Int.toNat_natCast]
    refine RcP.ok ?_
    obtain ⟨F2, e2, a2, k2⟩ := hs
    exact ⟨F2, fun k hk => by rcases e2 k hk with h1 | h1; exact .inl h1; exact .inr (Nat.le_trans (below_alloc w _).size h1), a2, (Kept.of_below (below_alloc w _)).trans k2 fun i hi => .inl hi⟩
  · have t2 : (E != 0) = true := by rw [bne_iff_ne]; exact h0
    have t3 : (E == 0) = false := by rw [beq_eq_false_iff_ne]; exact h0
    have H0 := Lib.hid h0
    clear hE h0 hx hy
    go_enter Try.func42, Try.ntmps42
    go_wp2_with (first
      | (go_at_call 62; (with_reducible refine (CK.out).mono ?_); rintro e w' ⟨rfl, rfl⟩))
    go_ret
    rw [← HE.out]
    exact RcP.no H0.out h (below_alloc w _)
theorem rMove_any (h : Rb w F p cs rs tr) (hw : ∀ x ∈ cs, x < 2 ^ 64) (m : Nat) (x y : Int) (hm : m < 2 ^ 64) (hx : i64R x) (hy : i64R y) : Calls Try.prog 43 #[.pointer (some ⟨p, 0, none⟩), .int .u64 (m : Int), .int .i64 x, .int .i64 y] w (RcP w F p cs rs tr (mvE cs.length tr.length m x y) (mvC m x.toNat y.toNat cs) (mvT x.toNat y.toNat)) := by
  have CK := Lib.hid (as_xy h m 1 3 x y hm hx hy)
  try rw [show ((3 : Nat) : Int) = 3 from rfl] at CK
  obtain ⟨E, hE⟩ : ∃ E, E = mvE cs.length tr.length m x y := ⟨_, rfl⟩
  have HE := Lib.hid hE
  unfold mvE at hE
  rw [← hE] at CK
  by_cases h0 : E = 0
  · obtain ⟨hM, ⟨a, rfl, ha⟩, ⟨b, rfl, hb⟩, hl⟩ := ck_two (hE.symm.trans h0)
    subst h0
    have SW := Lib.hid (rmove_any (h.below (below_alloc w (.cells #[.int .i64 (a : Int), .int .i64 (b : Int)] 3))) hw m a b hm ha hb (by omega))
    clear hE hM ha hb hl hx hy
    go_enter Try.func43, Try.ntmps43
    go_wp2_with (first
      | (go_at_call 62; (with_reducible refine (CK.out).mono ?_); rintro e w' ⟨rfl, rfl⟩)
      | (go_at_call 64; (with_reducible refine (SW.out).mono ?_); rintro e w2 ⟨rfl, hs⟩))
    go_ret
    rw [← HE.out, Int.toNat_natCast, Int.toNat_natCast]
    refine RcP.ok ?_
    obtain ⟨F2, e2, a2, k2⟩ := hs
    exact ⟨F2, fun k hk => by rcases e2 k hk with h1 | h1; exact .inl h1; exact .inr (Nat.le_trans (below_alloc w _).size h1), a2, (Kept.of_below (below_alloc w _)).trans k2 fun i hi => .inl hi⟩
  · have t2 : (E != 0) = true := by rw [bne_iff_ne]; exact h0
    have t3 : (E == 0) = false := by rw [beq_eq_false_iff_ne]; exact h0
    have H0 := Lib.hid h0
    clear hE h0 hx hy
    go_enter Try.func43, Try.ntmps43
    go_wp2_with (first
      | (go_at_call 62; (with_reducible refine (CK.out).mono ?_); rintro e w' ⟨rfl, rfl⟩))
    go_ret
    rw [← HE.out]
    exact RcP.no H0.out h (below_alloc w _)
set_option maxRecDepth 100000 in
theorem Clear_any (h : Ar w F p cs rs tr) (m : Nat) (x : Int) (hm : m < 2 ^ 64) (hx : i64R x) : Calls Try.prog 25 #[.pointer (some ⟨p, 0, none⟩), .int .u64 (m : Int), .int .i64 x] w (AcP w F p cs rs tr (clE cs.length tr.length m x) (clC m x.toNat cs) (clT x.toNat)) := by
  have hw := h.wcs
  have CK := Lib.hid (ck_x h m 2 x hm hx)
  try rw [show ((2 : Nat) : Int) = 2 from rfl] at CK
  obtain ⟨E, hE⟩ : ∃ E, E = clE cs.length tr.length m x := ⟨_, rfl⟩
  have HE := Lib.hid hE
  unfold clE at hE
  rw [← hE] at CK
  by_cases h0 : E = 0
  · obtain ⟨hM, ⟨a, rfl, ha⟩, hl⟩ := ck_one (hE.symm.trans h0)
    subst h0
    obtain ⟨u, hu⟩ : ∃ u, u = cs.getD a 0 := ⟨_, rfl⟩
    have hu2 : u < 2 ^ 64 := hu ▸ wcs_at hw a
    obtain ⟨s1, hs1⟩ : ∃ s, s = selM m 0 u := ⟨_, rfl⟩
    have L1 := Lib.hid (ar_load (h.below (below_alloc w (.cells #[.int .i64 (a : Int)] 3))) a u hu ha (by omega))
    have H1 := Lib.hid hs1
    have HU := Lib.hid hu
    have HX := Lib.hid ha
    have HL := Lib.hid hl
    have E1 := Lib.hid (hs1 ▸ selM_lt (by decide) hu2 : s1 < 2 ^ 64)
    have C1 := Lib.hid (fun W => hs1 ▸ sel_any m 0 u W hm (by decide) hu2 : ∀ W, Calls Try.prog 15 #[.int .u64 (m : Int), .int .u64 0, .int .u64 (u : Int)] W fun e w' => e = .returned (.int .u64 (s1 : Int)) ∧ W = w')
    clear hE hM ha hl hx hu hu2 hs1
    go_enter Try.func25, Try.ntmps25
    go_wp2_with (first
      | (go_at_call 49; (with_reducible refine (CK.out).mono ?_); rintro e w' ⟨rfl, rfl⟩)
      | (go_at_call 52; (with_reducible refine (L1.out).mono ?_); rintro e w1 ⟨rfl, F1, e1, a1, k1⟩; have A1 := Lib.hid a1; have Q1 := Lib.hid (And.intro e1 k1); clear a1 e1 k1)
      | (go_at_call 15; (with_reducible refine (C1.out _).mono ?_); rintro e w' ⟨rfl, rfl⟩)
      | (go_at_call 40; (with_reducible refine (ar_store A1.out a s1 HX.out E1.out (by simp; have := HL.out; omega)).mono ?_); rintro e w3 ⟨rfl, hs3⟩))
    go_ret
    have hf : clC m a cs = cs.set a s1 := by rw [H1.out, HU.out]; rfl
    rw [← HE.out, Int.toNat_natCast, hf]
    refine AcP.ok ?_
    rw [show tr ++ clT a = tr ++ [(1, a)] ++ [(2, a)] by simp [clT]]
    obtain ⟨F2, e2, a2, k2⟩ := Step.trans Q1.out.1 Q1.out.2 hs3
    exact ⟨F2, fun k hk => by rcases e2 k hk with h1 | h1; exact .inl h1; exact .inr (Nat.le_trans (below_alloc w _).size h1), a2, (Kept.of_below (below_alloc w _)).trans k2 fun i hi => .inl hi⟩
  · have t2 : (E != 0) = true := by rw [bne_iff_ne]; exact h0
    have t3 : (E == 0) = false := by rw [beq_eq_false_iff_ne]; exact h0
    have H0 := Lib.hid h0
    clear hE h0 hx
    go_enter Try.func25, Try.ntmps25
    go_wp2_with (first
      | (go_at_call 49; (with_reducible refine (CK.out).mono ?_); rintro e w' ⟨rfl, rfl⟩))
    go_ret
    rw [← HE.out]
    exact AcP.no H0.out h (below_alloc w _)
set_option maxRecDepth 100000 in
theorem rClear_any (h : Rb w F p cs rs tr) (hw : ∀ x ∈ cs, x < 2 ^ 64) (m : Nat) (x : Int) (hm : m < 2 ^ 64) (hx : i64R x) : Calls Try.prog 44 #[.pointer (some ⟨p, 0, none⟩), .int .u64 (m : Int), .int .i64 x] w (RcP w F p cs rs tr (clE cs.length tr.length m x) (clC m x.toNat cs) (clT x.toNat)) := by
  have CK := Lib.hid (as_x h m 1 2 x hm hx)
  try rw [show ((2 : Nat) : Int) = 2 from rfl] at CK
  obtain ⟨E, hE⟩ : ∃ E, E = clE cs.length tr.length m x := ⟨_, rfl⟩
  have HE := Lib.hid hE
  unfold clE at hE
  rw [← hE] at CK
  by_cases h0 : E = 0
  · obtain ⟨hM, ⟨a, rfl, ha⟩, hl⟩ := ck_one (hE.symm.trans h0)
    subst h0
    obtain ⟨u, hu⟩ : ∃ u, u = cs.getD a 0 := ⟨_, rfl⟩
    have hu2 : u < 2 ^ 64 := hu ▸ wcs_at hw a
    obtain ⟨s1, hs1⟩ : ∃ s, s = selM m 0 u := ⟨_, rfl⟩
    have L1 := Lib.hid (rb_load (h.below (below_alloc w (.cells #[.int .i64 (a : Int)] 3))) a u hu ha (by omega))
    have H1 := Lib.hid hs1
    have HU := Lib.hid hu
    have HX := Lib.hid ha
    have HL := Lib.hid hl
    have E1 := Lib.hid (hs1 ▸ selM_lt (by decide) hu2 : s1 < 2 ^ 64)
    have C1 := Lib.hid (fun W => hs1 ▸ rsel_any m 0 u W hm (by decide) hu2 : ∀ W, Calls Try.prog 16 #[.int .u64 (m : Int), .int .u64 0, .int .u64 (u : Int)] W fun e w' => e = .returned (.int .u64 (s1 : Int)) ∧ W = w')
    clear hE hM ha hl hx hu hu2 hs1
    go_enter Try.func44, Try.ntmps44
    go_wp2_with (first
      | (go_at_call 62; (with_reducible refine (CK.out).mono ?_); rintro e w' ⟨rfl, rfl⟩)
      | (go_at_call 65; (with_reducible refine (L1.out).mono ?_); rintro e w1 ⟨rfl, F1, e1, a1, k1⟩; have A1 := Lib.hid a1; have Q1 := Lib.hid (And.intro e1 k1); clear a1 e1 k1)
      | (go_at_call 16; (with_reducible refine (C1.out _).mono ?_); rintro e w' ⟨rfl, rfl⟩)
      | (go_at_call 41; (with_reducible refine (rb_store A1.out a s1 HX.out E1.out (by simp; have := HL.out; omega)).mono ?_); rintro e w3 ⟨rfl, hs3⟩))
    go_ret
    have hf : clC m a cs = cs.set a s1 := by rw [H1.out, HU.out]; rfl
    rw [← HE.out, Int.toNat_natCast, hf]
    refine RcP.ok ?_
    rw [show tr ++ clT a = tr ++ [(1, a)] ++ [(2, a)] by simp [clT]]
    obtain ⟨F2, e2, a2, k2⟩ := RStep.trans Q1.out.1 Q1.out.2 hs3
    exact ⟨F2, fun k hk => by rcases e2 k hk with h1 | h1; exact .inl h1; exact .inr (Nat.le_trans (below_alloc w _).size h1), a2, (Kept.of_below (below_alloc w _)).trans k2 fun i hi => .inl hi⟩
  · have t2 : (E != 0) = true := by rw [bne_iff_ne]; exact h0
    have t3 : (E == 0) = false := by rw [beq_eq_false_iff_ne]; exact h0
    have H0 := Lib.hid h0
    clear hE h0 hx
    go_enter Try.func44, Try.ntmps44
    go_wp2_with (first
      | (go_at_call 62; (with_reducible refine (CK.out).mono ?_); rintro e w' ⟨rfl, rfl⟩))
    go_ret
    rw [← HE.out]
    exact RcP.no H0.out h (below_alloc w _)
end
end Go.Proofs.Ytjckkohmgalabaa
