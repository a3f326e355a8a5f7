/- Swap, Move, Clear, in both arenas. -/
import Derived.Test.YtalnhbjpfnodiaaZd
namespace Go.Proofs.Ytalnhbjpfnodiaa
open Go.RowKit
def swE (n t m : Nat) (x y : Int) : Int := ckF m (fun v => hasE n v 1) (roomE t 4) [x, y]
def mvE (n t m : Nat) (x y : Int) : Int := ckF m (fun v => hasE n v 1) (roomE t 3) [x, y]
def clE (n t m : Nat) (x : Int) : Int := ckF m (fun v => hasE n v 1) (roomE t 2) [x]
theorem hasE_zero {n : Nat} {a k : Int} (h : hasE n a k = 0) : 0 ≤ k ∧ 0 ≤ a ∧ a + k ≤ n := by
  unfold hasE at h; split at h
  · cases h
  · omega
theorem roomE_zero {t : Nat} {k : Int} (h : roomE t k = 0) : 0 ≤ k ∧ (t : Int) + k ≤ 8388608 := by
  unfold roomE at h; split at h
  · cases h
  · split at h
    · cases h
    · omega
theorem ckF_zero {m : Nat} {f : Int → Int} {rm : Int} {l : List Int} (h : ckF m f rm l = 0) : isM m ∧ hasF f l = 0 ∧ rm = 0 := by
  unfold ckF at h; split at h
  · rename_i h1
    split at h
    · rename_i h2; exact ⟨h1, h2, h⟩
    · rename_i h2; exact absurd h h2
  · cases h
theorem ck_two {n t m : Nat} {s x y : Int} (h : ckF m (fun v => hasE n v 1) (roomE t s) [x, y] = 0) : isM m ∧ (∃ a : Nat, x = a ∧ a < n) ∧ (∃ b : Nat, y = b ∧ b < n) ∧ (t : Int) + s ≤ 8388608 := by
  obtain ⟨h1, h2, h3⟩ := ckF_zero h
  obtain ⟨h4, h5⟩ := hasF_two h2
  have h4 := hasE_zero h4
  have h5 := hasE_zero h5
  have h6 := roomE_zero h3
  exact ⟨h1, ⟨x.toNat, by omega, by omega⟩, ⟨y.toNat, by omega, by omega⟩, h6.2⟩
theorem ck_one {n t m : Nat} {s x : Int} (h : ckF m (fun v => hasE n v 1) (roomE t s) [x] = 0) : isM m ∧ (∃ a : Nat, x = a ∧ a < n) ∧ (t : Int) + s ≤ 8388608 := by
  obtain ⟨h1, h2, h3⟩ := ckF_zero h
  have h4 : hasE n x 1 = 0 := by
    unfold hasF at h2; split at h2
    · rename_i h5; exact h5
    · rename_i h5; exact absurd h2 h5
  have h4 := hasE_zero h4
  have h6 := roomE_zero h3
  exact ⟨h1, ⟨x.toNat, by omega, by omega⟩, h6.2⟩
/-- What a call over the program's arena leaves: an error and nothing changed, or its cells and its steps. -/
def AcP (w : World) (F : Nat → Prop) (p : Nat) (cs : List Nat) (rs : List Rg) (tr : List (Nat × Nat)) (E : Int) (c' : List Nat) (t' : List (Nat × Nat)) (e : Ending) (w' : World) : Prop :=
  e = .returned (.int .i64 E) ∧ Step w F p (if E = 0 then c' else cs) rs (if E = 0 then tr ++ t' else tr) w'
def RcP (w : World) (F : Nat → Prop) (p : Nat) (cs : List Nat) (rs : List Rg) (tr : List (Nat × Nat)) (E : Int) (c' : List Nat) (t' : List (Nat × Nat)) (e : Ending) (w' : World) : Prop :=
  e = .returned (.int .i64 E) ∧ RStep w F p (if E = 0 then c' else cs) rs (if E = 0 then tr ++ t' else tr) w'
theorem cells_x (w : World) (x : Int) (t : TypeId) : ∀ (i : Nat) (v : Int), [x][i]? = some v → (w.alloc (.cells #[.int .i64 x] t)).cell? ⟨w.heap.size, i, none⟩ = some (.int .i64 v)
  | 0, v, h => by cases h; exact cell_blk (heap_alloc_new w _) 0
  | n + 1, v, h => by simp at h
section
variable {w w' : World} {F : Nat → Prop} {p : Nat} {cs c' : List Nat} {rs : List Rg} {tr t' : List (Nat × Nat)}
theorem AcP.ok (h : Step w F p c' rs (tr ++ t') w') : AcP w F p cs rs tr 0 c' t' (.returned (.int .i64 0)) w' := ⟨rfl, by rw [if_pos rfl, if_pos rfl]; exact h⟩
theorem AcP.no {E : Int} (h0 : ¬ E = 0) (h : Ar w F p cs rs tr) (hb : Below w.heap.size w w') : AcP w F p cs rs tr E c' t' (.returned (.int .i64 E)) w' := ⟨rfl, by rw [if_neg h0, if_neg h0]; exact .stay h hb⟩
theorem RcP.ok (h : RStep w F p c' rs (tr ++ t') w') : RcP w F p cs rs tr 0 c' t' (.returned (.int .i64 0)) w' := ⟨rfl, by rw [if_pos rfl, if_pos rfl]; exact h⟩
theorem RcP.no {E : Int} (h0 : ¬ E = 0) (h : Rb w F p cs rs tr) (hb : Below w.heap.size w w') : RcP w F p cs rs tr E c' t' (.returned (.int .i64 E)) w' := ⟨rfl, by rw [if_neg h0, if_neg h0]; exact .stay h hb⟩
theorem ar_has (h : Ar w F p cs rs tr) (a b : Int) (ha : i64R a) : Calls Try.prog 59 #[.pointer (some ⟨p, 0, none⟩), .int .i64 a, .int .i64 b] w fun e w' => e = .returned (.int .i64 (hasE cs.length a b)) ∧ w = w' := by
  obtain ⟨_, _, _, _, hx⟩ := h; exact has_any hx a b ha
theorem ar_room (h : Ar w F p cs rs tr) (a : Int) : Calls Try.prog 55 #[.pointer (some ⟨p, 0, none⟩), .int .i64 a] w fun e w' => e = .returned (.int .i64 (roomE tr.length a)) ∧ w = w' := by
  obtain ⟨_, _, _, _, hx⟩ := h; exact room_any hx a
theorem rb_has (h : Rb w F p cs rs tr) (a b : Int) (ha : i64R a) : Calls Try.prog 71 #[.pointer (some ⟨p, 0, none⟩), .int .i64 a, .int .i64 b] w fun e w' => e = .returned (.int .i64 (hasE cs.length a b)) ∧ w = w' := by
  obtain ⟨_, _, _, hx⟩ := h; exact rhas_any hx a b ha
theorem rb_room (h : Rb w F p cs rs tr) (a : Int) : Calls Try.prog 69 #[.pointer (some ⟨p, 0, none⟩), .int .i64 a] w fun e w' => e = .returned (.int .i64 (roomE tr.length a)) ∧ w = w' := by
  obtain ⟨_, _, _, hx⟩ := h; exact rroom_any hx a
theorem r_two {x y : Int} (hx : i64R x) (hy : i64R y) : ∀ v ∈ [x, y], i64R v := by
  intro v hv
  simp only [List.mem_cons, List.not_mem_nil, or_false] at hv
  rcases hv with rfl | rfl
  · exact hx
  · exact hy
theorem below_alloc (w : World) (o : Obj) : Below w.heap.size w (w.alloc o) := (Below.refl _ w).alloc (Nat.le_refl _) o
theorem as_xy (h : Rb w F p cs rs tr) (m : Nat) (q st x y : Int) (hm : m < 2 ^ 64) (hx : i64R x) (hy : i64R y) :
    Calls Try.prog 96 #[.pointer (some ⟨p, 0, none⟩), .int .u64 (m : Int), .slice (some ⟨w.heap.size, 0, none⟩) 2 2, .int .i64 q, .int .i64 st] (w.alloc (.cells #[.int .i64 x, .int .i64 y] 3)) fun e w' => e = .returned (.int .i64 (ckF m (fun v => hasE cs.length v q) (roomE tr.length st) [x, y])) ∧ w.alloc (.cells #[.int .i64 x, .int .i64 y] 3) = w' :=
  asked_any (.pointer (some ⟨p, 0, none⟩)) (fun v => hasE cs.length v q) (roomE tr.length st) m w.heap.size st q [x, y] _ hm (by simp) (r_two hx hy) (cells_xy w x y _) (fun v hv => rb_has (h.below (below_alloc w _)) v q hv) (rb_room (h.below (below_alloc w _)) st)
theorem as_x (h : Rb w F p cs rs tr) (m : Nat) (q st x : Int) (hm : m < 2 ^ 64) (hx : i64R x) :
    Calls Try.prog 96 #[.pointer (some ⟨p, 0, none⟩), .int .u64 (m : Int), .slice (some ⟨w.heap.size, 0, none⟩) 1 1, .int .i64 q, .int .i64 st] (w.alloc (.cells #[.int .i64 x] 3)) fun e w' => e = .returned (.int .i64 (ckF m (fun v => hasE cs.length v q) (roomE tr.length st) [x])) ∧ w.alloc (.cells #[.int .i64 x] 3) = w' :=
  asked_any (.pointer (some ⟨p, 0, none⟩)) (fun v => hasE cs.length v q) (roomE tr.length st) m w.heap.size st q [x] _ hm (by simp) (fun v hv => List.mem_singleton.1 hv ▸ hx) (cells_x w x _) (fun v hv => rb_has (h.below (below_alloc w _)) v q hv) (rb_room (h.below (below_alloc w _)) st)
end
end Go.Proofs.Ytalnhbjpfnodiaa
