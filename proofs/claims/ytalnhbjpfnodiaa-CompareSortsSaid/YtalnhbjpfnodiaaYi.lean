/- What a table is; Sort's error; the blocks of the call. -/
import Derived.Test.YtalnhbjpfnodiaaYh
namespace Go.Proofs.Ytalnhbjpfnodiaa
open Go.RowKit Go.Shelf
def isT (m k : Int) : Prop := 1 ≤ m ∧ m ≤ 16 ∧ 1 ≤ k ∧ m * k ≤ 64
instance (m k : Int) : Decidable (isT m k) := inferInstanceAs (Decidable (_ ∧ _))
set_option maxRecDepth 100000 in
theorem istable_any (m k : Int) (w : World) : Calls Try.prog 58 #[.int .i64 m, .int .i64 k] w fun e w' => e = .returned (.bool (decide (isT m k))) ∧ w = w' := by
  by_cases h1 : 1 ≤ m
  case neg =>
    have t1 : decide (m ≥ 1) = false := decide_eq_false h1
    have t1' : decide (1 ≤ m) = false := decide_eq_false h1
    have HD := Lib.hid (show decide (isT m k) = false from decide_eq_false fun h => h1 h.1)
    clear h1
    go_enter Try.func58, Try.ntmps58
    go_wp2
    go_ret
    exact ⟨by rw [HD.out]; rfl, rfl⟩
  by_cases h2 : m ≤ 16
  case neg =>
    have t1 : decide (m ≥ 1) = true := decide_eq_true h1
    have t1' : decide (1 ≤ m) = true := decide_eq_true h1
    have t2 : decide (m ≤ 16) = false := decide_eq_false h2
    have HD := Lib.hid (show decide (isT m k) = false from decide_eq_false fun h => h2 h.2.1)
    clear h1 h2
    go_enter Try.func58, Try.ntmps58
    go_wp2
    go_ret
    exact ⟨by rw [HD.out]; rfl, rfl⟩
  by_cases h3 : 1 ≤ k
  case neg =>
    have t1 : decide (m ≥ 1) = true := decide_eq_true h1
    have t1' : decide (1 ≤ m) = true := decide_eq_true h1
    have t2 : decide (m ≤ 16) = true := decide_eq_true h2
    have t3 : decide (k ≥ 1) = false := decide_eq_false h3
    have t3' : decide (1 ≤ k) = false := decide_eq_false h3
    have HD := Lib.hid (show decide (isT m k) = false from decide_eq_false fun h => h3 h.2.2.1)
    clear h1 h2 h3
    go_enter Try.func58, Try.ntmps58
    go_wp2
    go_ret
    exact ⟨by rw [HD.out]; rfl, rfl⟩
  case pos =>
    have t3 : decide (k ≥ 1) = true := decide_eq_true h3
    have t3' : decide (1 ≤ k) = true := decide_eq_true h3
    have hm : m = 1 ∨ m = 2 ∨ m = 3 ∨ m = 4 ∨ m = 5 ∨ m = 6 ∨ m = 7 ∨ m = 8 ∨ m = 9 ∨ m = 10 ∨ m = 11 ∨ m = 12 ∨ m = 13 ∨ m = 14 ∨ m = 15 ∨ m = 16 := by omega
    rcases hm with rfl | rfl | rfl | rfl | rfl | rfl | rfl | rfl | rfl | rfl | rfl | rfl | rfl | rfl | rfl | rfl
    · obtain ⟨b, hb⟩ : ∃ b, decide (k ≤ 64) = b := ⟨_, rfl⟩
      have hb2 : decide ((64 : Int) ≥ k) = b := hb
      have HD := Lib.hid (show decide (isT 1 k) = b by rw [← hb]; unfold isT; exact decide_eq_decide.2 (by omega))
      clear hb h1 h2 h3
      go_enter Try.func58, Try.ntmps58
      go_wp2
      go_ret
      exact ⟨by rw [HD.out]; rfl, rfl⟩
    · obtain ⟨b, hb⟩ : ∃ b, decide (k ≤ 32) = b := ⟨_, rfl⟩
      have hb2 : decide ((32 : Int) ≥ k) = b := hb
      have HD := Lib.hid (show decide (isT 2 k) = b by rw [← hb]; unfold isT; exact decide_eq_decide.2 (by omega))
      clear hb h1 h2 h3
      go_enter Try.func58, Try.ntmps58
      go_wp2
      go_ret
      exact ⟨by rw [HD.out]; rfl, rfl⟩
    · obtain ⟨b, hb⟩ : ∃ b, decide (k ≤ 21) = b := ⟨_, rfl⟩
      have hb2 : decide ((21 : Int) ≥ k) = b := hb
      have HD := Lib.hid (show decide (isT 3 k) = b by rw [← hb]; unfold isT; exact decide_eq_decide.2 (by omega))
      clear hb h1 h2 h3
      go_enter Try.func58, Try.ntmps58
      go_wp2
      go_ret
      exact ⟨by rw [HD.out]; rfl, rfl⟩
    · obtain ⟨b, hb⟩ : ∃ b, decide (k ≤ 16) = b := ⟨_, rfl⟩
      have hb2 : decide ((16 : Int) ≥ k) = b := hb
      have HD := Lib.hid (show decide (isT 4 k) = b by rw [← hb]; unfold isT; exact decide_eq_decide.2 (by omega))
      clear hb h1 h2 h3
      go_enter Try.func58, Try.ntmps58
      go_wp2
      go_ret
      exact ⟨by rw [HD.out]; rfl, rfl⟩
    · obtain ⟨b, hb⟩ : ∃ b, decide (k ≤ 12) = b := ⟨_, rfl⟩
      have hb2 : decide ((12 : Int) ≥ k) = b := hb
      have HD := Lib.hid (show decide (isT 5 k) = b by rw [← hb]; unfold isT; exact decide_eq_decide.2 (by omega))
      clear hb h1 h2 h3
      go_enter Try.func58, Try.ntmps58
      go_wp2
      go_ret
      exact ⟨by rw [HD.out]; rfl, rfl⟩
    · obtain ⟨b, hb⟩ : ∃ b, decide (k ≤ 10) = b := ⟨_, rfl⟩
      have hb2 : decide ((10 : Int) ≥ k) = b := hb
      have HD := Lib.hid (show decide (isT 6 k) = b by rw [← hb]; unfold isT; exact decide_eq_decide.2 (by omega))
      clear hb h1 h2 h3
      go_enter Try.func58, Try.ntmps58
      go_wp2
      go_ret
      exact ⟨by rw [HD.out]; rfl, rfl⟩
    · obtain ⟨b, hb⟩ : ∃ b, decide (k ≤ 9) = b := ⟨_, rfl⟩
      have hb2 : decide ((9 : Int) ≥ k) = b := hb
      have HD := Lib.hid (show decide (isT 7 k) = b by rw [← hb]; unfold isT; exact decide_eq_decide.2 (by omega))
      clear hb h1 h2 h3
      go_enter Try.func58, Try.ntmps58
      go_wp2
      go_ret
      exact ⟨by rw [HD.out]; rfl, rfl⟩
    · obtain ⟨b, hb⟩ : ∃ b, decide (k ≤ 8) = b := ⟨_, rfl⟩
      have hb2 : decide ((8 : Int) ≥ k) = b := hb
      have HD := Lib.hid (show decide (isT 8 k) = b by rw [← hb]; unfold isT; exact decide_eq_decide.2 (by omega))
      clear hb h1 h2 h3
      go_enter Try.func58, Try.ntmps58
      go_wp2
      go_ret
      exact ⟨by rw [HD.out]; rfl, rfl⟩
    · obtain ⟨b, hb⟩ : ∃ b, decide (k ≤ 7) = b := ⟨_, rfl⟩
      have hb2 : decide ((7 : Int) ≥ k) = b := hb
      have HD := Lib.hid (show decide (isT 9 k) = b by rw [← hb]; unfold isT; exact decide_eq_decide.2 (by omega))
      clear hb h1 h2 h3
      go_enter Try.func58, Try.ntmps58
      go_wp2
      go_ret
      exact ⟨by rw [HD.out]; rfl, rfl⟩
    · obtain ⟨b, hb⟩ : ∃ b, decide (k ≤ 6) = b := ⟨_, rfl⟩
      have hb2 : decide ((6 : Int) ≥ k) = b := hb
      have HD := Lib.hid (show decide (isT 10 k) = b by rw [← hb]; unfold isT; exact decide_eq_decide.2 (by omega))
      clear hb h1 h2 h3
      go_enter Try.func58, Try.ntmps58
      go_wp2
      go_ret
      exact ⟨by rw [HD.out]; rfl, rfl⟩
    · obtain ⟨b, hb⟩ : ∃ b, decide (k ≤ 5) = b := ⟨_, rfl⟩
      have hb2 : decide ((5 : Int) ≥ k) = b := hb
      have HD := Lib.hid (show decide (isT 11 k) = b by rw [← hb]; unfold isT; exact decide_eq_decide.2 (by omega))
      clear hb h1 h2 h3
      go_enter Try.func58, Try.ntmps58
      go_wp2
      go_ret
      exact ⟨by rw [HD.out]; rfl, rfl⟩
    · obtain ⟨b, hb⟩ : ∃ b, decide (k ≤ 5) = b := ⟨_, rfl⟩
      have hb2 : decide ((5 : Int) ≥ k) = b := hb
      have HD := Lib.hid (show decide (isT 12 k) = b by rw [← hb]; unfold isT; exact decide_eq_decide.2 (by omega))
      clear hb h1 h2 h3
      go_enter Try.func58, Try.ntmps58
      go_wp2
      go_ret
      exact ⟨by rw [HD.out]; rfl, rfl⟩
    · obtain ⟨b, hb⟩ : ∃ b, decide (k ≤ 4) = b := ⟨_, rfl⟩
      have hb2 : decide ((4 : Int) ≥ k) = b := hb
      have HD := Lib.hid (show decide (isT 13 k) = b by rw [← hb]; unfold isT; exact decide_eq_decide.2 (by omega))
      clear hb h1 h2 h3
      go_enter Try.func58, Try.ntmps58
      go_wp2
      go_ret
      exact ⟨by rw [HD.out]; rfl, rfl⟩
    · obtain ⟨b, hb⟩ : ∃ b, decide (k ≤ 4) = b := ⟨_, rfl⟩
      have hb2 : decide ((4 : Int) ≥ k) = b := hb
      have HD := Lib.hid (show decide (isT 14 k) = b by rw [← hb]; unfold isT; exact decide_eq_decide.2 (by omega))
      clear hb h1 h2 h3
      go_enter Try.func58, Try.ntmps58
      go_wp2
      go_ret
      exact ⟨by rw [HD.out]; rfl, rfl⟩
    · obtain ⟨b, hb⟩ : ∃ b, decide (k ≤ 4) = b := ⟨_, rfl⟩
      have hb2 : decide ((4 : Int) ≥ k) = b := hb
      have HD := Lib.hid (show decide (isT 15 k) = b by rw [← hb]; unfold isT; exact decide_eq_decide.2 (by omega))
      clear hb h1 h2 h3
      go_enter Try.func58, Try.ntmps58
      go_wp2
      go_ret
      exact ⟨by rw [HD.out]; rfl, rfl⟩
    · obtain ⟨b, hb⟩ : ∃ b, decide (k ≤ 4) = b := ⟨_, rfl⟩
      have hb2 : decide ((4 : Int) ≥ k) = b := hb
      have HD := Lib.hid (show decide (isT 16 k) = b by rw [← hb]; unfold isT; exact decide_eq_decide.2 (by omega))
      clear hb h1 h2 h3
      go_enter Try.func58, Try.ntmps58
      go_wp2
      go_ret
      exact ⟨by rw [HD.out]; rfl, rfl⟩
/-- The error of Sort. -/
def soE (n t : Nat) (base m k : Int) : Int := if isT m k then (if hasE n base (m * k) = 0 then roomE t (((4 * k.toNat + 2) * (netK (m.toNat - 1)).length : Nat) : Int) else hasE n base (m * k)) else 7
theorem soE_zero {n t : Nat} {base m k : Int} (h : soE n t base m k = 0) : ∃ M : Nat, m = M ∧ 1 ≤ M ∧ M ≤ 16 ∧ ∃ j : Nat, k = j ∧ 1 ≤ j ∧ M * j ≤ 64 ∧ ∃ a : Nat, base = a ∧ a + M * j ≤ n ∧ t + (4 * j + 2) * (netK (M - 1)).length ≤ 8388608 := by
  unfold soE at h
  split at h
  case isFalse => cases h
  case isTrue h1 =>
    obtain ⟨h2, h3, h4, h5⟩ := h1
    obtain ⟨M, rfl⟩ : ∃ M : Nat, m = M := ⟨m.toNat, by omega⟩
    obtain ⟨j, rfl⟩ : ∃ j : Nat, k = j := ⟨k.toNat, by omega⟩
    split at h
    case isFalse h6 => exact absurd h h6
    case isTrue h6 =>
      have h7 := hasE_zero h6
      have h8 := roomE_zero h
      simp only [Int.toNat_natCast] at h8
      have e : ((M : Int) * (j : Int)) = ((M * j : Nat) : Int) := by simp
      rw [e] at h7 h5
      exact ⟨M, rfl, by omega, by omega, j, rfl, by omega, by omega, base.toNat, by omega, by omega, by omega⟩
/-- What lies in the blocks of the call. -/
structure SoB (s p a j M : Nat) (ob : Obj) (W : World) : Prop where
  pb : Boxed W s 30 (.pointer (some ⟨p, 0, none⟩))
  xb : Boxed W (s + 1) 3 (.int .i64 (a : Int))
  nb : Boxed W (s + 2) 3 (.int .i64 (j : Int))
  mb : Boxed W (s + 3) 3 (.int .i64 (M : Int))
  two : RY.Two (s + 4) ob W
abbrev soX (s : Nat) : Nat → Prop := fun k => s ≤ k ∧ k < s + 6
theorem SoB.to {s p a j M : Nat} {ob : Obj} {W W' : World} (h : SoB s p a j M ob W) (e : ∀ k, soX s k → W'.heap[k]? = W.heap[k]?) : SoB s p a j M ob W' :=
  ⟨(e _ (by omega)).trans h.pb, (e _ (by omega)).trans h.xb, (e _ (by omega)).trans h.nb, (e _ (by omega)).trans h.mb, h.two.to (e _ (by omega)) (e _ (by omega))⟩
theorem SoB.loop {s p a j M : Nat} {ob : Obj} {W : World} (h : SoB s p a j M ob W) (ob' : Obj) : SoB s p a j M ob' (W.putObj (s + 5) ob') :=
  ⟨(World.putObj_heap_other (by omega)).trans h.pb, (World.putObj_heap_other (by omega)).trans h.xb, (World.putObj_heap_other (by omega)).trans h.nb, (World.putObj_heap_other (by omega)).trans h.mb, h.two.put⟩
theorem so3 (W W3 : World) (p : Nat) (x k : Int) (h : W3 = ((W.alloc (.cells #[.pointer (some ⟨p, 0, none⟩)] 30)).alloc (.cells #[.int .i64 x] 3)).alloc (.cells #[.int .i64 k] 3)) :
    W3.heap.size = W.heap.size + 3 ∧ Below W.heap.size W W3 ∧ Boxed W3 W.heap.size 30 (.pointer (some ⟨p, 0, none⟩)) ∧ Boxed W3 (W.heap.size + 1) 3 (.int .i64 x) ∧ Boxed W3 (W.heap.size + 1 + 1) 3 (.int .i64 k) := by
  subst h
  have b1 := Boxed.new W 30 (.pointer (some ⟨p, 0, none⟩))
  have b2 := Boxed.new (W.alloc (.cells #[.pointer (some ⟨p, 0, none⟩)] 30)) 3 (.int .i64 x)
  have b3 := Boxed.new ((W.alloc (.cells #[.pointer (some ⟨p, 0, none⟩)] 30)).alloc (.cells #[.int .i64 x] 3)) 3 (.int .i64 k)
  simp only [World.size_alloc] at b2 b3
  exact ⟨by simp, ((((Below.refl _ W).alloc (Nat.le_refl _) _).alloc (by simp) _).alloc (by simp; omega) _), (b1.alloc _).alloc _, b2.alloc _, b3⟩
end Go.Proofs.Ytalnhbjpfnodiaa
