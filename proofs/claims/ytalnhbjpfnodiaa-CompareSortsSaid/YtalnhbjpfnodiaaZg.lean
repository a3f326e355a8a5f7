/- The reference's rows, SwapRows and MoveRows. -/
import Derived.Test.YtalnhbjpfnodiaaZf
namespace Go.Proofs.Ytalnhbjpfnodiaa
open Go.RowKit
section
variable {w w' : World} {F : Nat → Prop} {p : Nat} {cs c' : List Nat} {rs : List Rg} {tr t' : List (Nat × Nat)}
theorem Rb.bnd (h : Rb w F p cs rs tr) : tr.length ≤ 8388608 ∧ cs.length ≤ 65536 := by obtain ⟨_, _, _, hx⟩ := h; exact ⟨hx.long, hx.ncs.2⟩
set_option maxRecDepth 100000 in
theorem rrows_any (h : Rb w F p cs rs tr) (m : Nat) (x y k st : Int) (hm : m < 2 ^ 64) (hx : i64R x) (hy : i64R y) :
    Calls Try.prog 91 #[.pointer (some ⟨p, 0, none⟩), .int .u64 (m : Int), .int .i64 x, .int .i64 y, .int .i64 k, .int .i64 st] w fun e w' => e = .returned (.int .i64 (ckR m (fun v => hasE cs.length v k) (roomE tr.length st) x y k)) ∧ Below w.heap.size w w' := by
  have IS := Lib.hid (fun w => ris_any m w hm)
  have B0 := Below.refl w.heap.size w
  obtain ⟨hb1, hb2⟩ := h.bnd
  obtain ⟨K, hK⟩ : ∃ K, K = ckR m (fun v => hasE cs.length v k) (roomE tr.length st) x y k := ⟨_, rfl⟩
  rw [← hK]
  by_cases hM : isM m
  · rw [decide_eq_true hM] at IS
    by_cases hk1 : k < 1
    · have t1 : decide (k < 1) = true := decide_eq_true hk1
      have HK : Hid (K = 7) := Lib.hid (by rw [hK]; unfold ckR; rw [if_pos hM, if_pos (.inl hk1)])
      clear hK hM hx hy h hb1 hb2
      go_enter Try.func91, Try.ntmps91
      go_wp2_with (first
        | (go_at_call 95; (with_reducible refine (IS.out _).mono ?_); rintro e w' ⟨rfl, rfl⟩))
      go_ret
      exact ⟨by rw [HK.out]; rfl, B0⟩
    · have t1 : decide (k < 1) = false := decide_eq_false hk1
      by_cases hk2 : 64 < k
      · have t2 : decide (k > 64) = true := decide_eq_true hk2
        have t2' : decide (64 < k) = true := decide_eq_true hk2
        have HK : Hid (K = 7) := Lib.hid (by rw [hK]; unfold ckR; rw [if_pos hM, if_pos (.inr hk2)])
        clear hK hM hx hy h hb1 hb2
        go_enter Try.func91, Try.ntmps91
        go_wp2_with (first
          | (go_at_call 95; (with_reducible refine (IS.out _).mono ?_); rintro e w' ⟨rfl, rfl⟩))
        go_ret
        exact ⟨by rw [HK.out]; rfl, B0⟩
      · have t2 : decide (k > 64) = false := decide_eq_false hk2
        have t2' : decide (64 < k) = false := decide_eq_false hk2
        have hA := as_xy h m k 0 x y hm hx hy
        have hz : ckF m (fun v => hasE cs.length v k) (roomE tr.length 0) [x, y] = hasF (fun v => hasE cs.length v k) [x, y] := by
          unfold ckF; rw [if_pos hM]
          split
          · rename_i h0
            rw [h0]; unfold roomE; rw [if_neg (by omega), if_neg (by omega)]
          · rfl
        rw [hz] at hA
        obtain ⟨E, hE⟩ : ∃ E, E = hasF (fun v => hasE cs.length v k) [x, y] := ⟨_, rfl⟩
        have HK : Hid (K = if E = 0 then (if x < y + k ∧ y < x + k then 2 else roomE tr.length st) else E) := Lib.hid (by rw [hK]; unfold ckR; rw [if_pos hM, if_neg (by omega), ← hE])
        rw [← hE] at hA
        have AK := Lib.hid hA
        have B1 : Hid (Below w.heap.size w (w.alloc (.cells #[.int .i64 x, .int .i64 y] 3))) := Lib.hid (below_alloc w _)
        by_cases h0 : E = 0
        · obtain ⟨f1, f2⟩ := hasF_two (hE.symm.trans h0)
          have f1 := hasE_zero f1
          have f2 := hasE_zero f2
          subst h0
          have RO := Lib.hid (rb_room (h.below B1.out) st)
          obtain ⟨yk, hyk⟩ : ∃ z, z = y + k := ⟨_, rfl⟩
          obtain ⟨xk, hxk⟩ : ∃ z, z = x + k := ⟨_, rfl⟩
          have e1 : IntKind.i64.wrap (y + k) = yk := by rw [IntKind.wrap_i64]; omega
          have e2 : IntKind.i64.wrap (x + k) = xk := by rw [IntKind.wrap_i64]; omega
          rw [← hyk, ← hxk] at HK
          obtain ⟨rm, hrm⟩ : ∃ z, z = roomE tr.length st := ⟨_, rfl⟩
          rw [← hrm] at HK RO
          clear hrm hyk hxk hK hM hx hy hE hz hA hb1 hb2 f1 f2 h hk1 hk2
          by_cases h1 : x < yk
          · have u1 : decide (x < yk) = true := decide_eq_true h1
            by_cases h2 : y < xk
            · have u2 : decide (y < xk) = true := decide_eq_true h2
              have HP := Lib.hid (And.intro h1 h2)
              clear h1 h2
              go_enter Try.func91, Try.ntmps91
              go_wp2_with (first
                | (go_at_call 95; (with_reducible refine (IS.out _).mono ?_); rintro e w' ⟨rfl, rfl⟩)
                | (go_at_call 96; (with_reducible refine (AK.out).mono ?_); rintro e w' ⟨rfl, rfl⟩))
              go_ret
              exact ⟨by rw [HK.out, if_pos (by trivial), if_pos HP.out]; rfl, B1.out⟩
            · have u2 : decide (y < xk) = false := decide_eq_false h2
              have HP := Lib.hid (fun hh : x < yk ∧ y < xk => h2 hh.2)
              clear h1 h2
              go_enter Try.func91, Try.ntmps91
              go_wp2_with (first
                | (go_at_call 95; (with_reducible refine (IS.out _).mono ?_); rintro e w' ⟨rfl, rfl⟩)
                | (go_at_call 96; (with_reducible refine (AK.out).mono ?_); rintro e w' ⟨rfl, rfl⟩)
                | (go_at_call 69; (with_reducible refine (RO.out).mono ?_); rintro e w' ⟨rfl, rfl⟩))
              go_ret
              exact ⟨by rw [HK.out, if_pos (by trivial), if_neg HP.out]; rfl, B1.out⟩
          · have u1 : decide (x < yk) = false := decide_eq_false h1
            have HP := Lib.hid (fun hh : x < yk ∧ y < xk => h1 hh.1)
            clear h1
            go_enter Try.func91, Try.ntmps91
            go_wp2_with (first
              | (go_at_call 95; (with_reducible refine (IS.out _).mono ?_); rintro e w' ⟨rfl, rfl⟩)
              | (go_at_call 96; (with_reducible refine (AK.out).mono ?_); rintro e w' ⟨rfl, rfl⟩)
              | (go_at_call 69; (with_reducible refine (RO.out).mono ?_); rintro e w' ⟨rfl, rfl⟩))
            go_ret
            exact ⟨by rw [HK.out, if_pos (by trivial), if_neg HP.out]; rfl, B1.out⟩
        · have u1 : (E != 0) = true := by rw [bne_iff_ne]; exact h0
          have H0 := Lib.hid h0
          clear h0 hK hM hx hy hE hz hA hb1 hb2 h hk1 hk2
          go_enter Try.func91, Try.ntmps91
          go_wp2_with (first
            | (go_at_call 95; (with_reducible refine (IS.out _).mono ?_); rintro e w' ⟨rfl, rfl⟩)
            | (go_at_call 96; (with_reducible refine (AK.out).mono ?_); rintro e w' ⟨rfl, rfl⟩))
          go_ret
          exact ⟨by rw [HK.out, if_neg H0.out]; rfl, B1.out⟩
  · rw [decide_eq_false hM] at IS
    have HK : Hid (K = 2) := Lib.hid (by rw [hK]; exact if_neg hM)
    clear hK hM hx hy h hb1 hb2
    go_enter Try.func91, Try.ntmps91
    go_wp2_with (first
      | (go_at_call 95; (with_reducible refine (IS.out _).mono ?_); rintro e w' ⟨rfl, rfl⟩))
    go_ret
    exact ⟨by rw [HK.out]; rfl, B0⟩
/-- As many steps as the reference asks for. -/
def capS (st k : Int) : Int := st * min (max k 0) 64
theorem ckR_cap {n t m : Nat} {st x y k : Int} : ckR m (fun v => hasE n v k) (roomE t (capS st k)) x y k = rowE n t m st x y k := by
  unfold rowE
  by_cases hk : k < 1 ∨ 64 < k
  · unfold ckR; rw [if_pos hk, if_pos hk]
  · rw [show capS st k = st * k by unfold capS; rw [show min (max k 0) 64 = k by omega]]
theorem swC_w {m x y : Nat} {cs : List Nat} (h : ∀ v ∈ cs, v < 2 ^ 64) : ∀ v ∈ swC m x y cs, v < 2 ^ 64 := by
  intro v hv
  unfold swC at hv
  rcases List.mem_or_eq_of_mem_set hv with h1 | rfl
  · rcases List.mem_or_eq_of_mem_set h1 with h2 | rfl
    · exact h v h2
    · exact selM_lt (wcs_at h _) (wcs_at h _)
  · exact selM_lt (wcs_at h _) (wcs_at h _)
theorem mvC_w {m x y : Nat} {cs : List Nat} (h : ∀ v ∈ cs, v < 2 ^ 64) : ∀ v ∈ mvC m x y cs, v < 2 ^ 64 := by
  intro v hv
  unfold mvC at hv
  rcases List.mem_or_eq_of_mem_set hv with h1 | rfl
  · exact h v h1
  · exact selM_lt (wcs_at h _) (wcs_at h _)
set_option maxRecDepth 100000 in
theorem rSwapRows_any (h : Rb w F p cs rs tr) (hw : ∀ x ∈ cs, x < 2 ^ 64) (m : Nat) (x y k : Int) (hm : m < 2 ^ 64) (hx : i64R x) (hy : i64R y) (hk : i64R k) : Calls Try.prog 84 #[.pointer (some ⟨p, 0, none⟩), .int .u64 (m : Int), .int .i64 x, .int .i64 y, .int .i64 k] w (RcP w F p cs rs tr (rowE cs.length tr.length m 4 x y k) (swRC m x.toNat y.toNat cs k.toNat) (swRT x.toNat y.toNat k.toNat)) := by
  have hR := rrows_any h m x y k (capS 4 k) hm hx hy
  rw [ckR_cap] at hR
  obtain ⟨E, hE⟩ : ∃ E, E = rowE cs.length tr.length m 4 x y k := ⟨_, rfl⟩
  have HE := Lib.hid hE
  rw [← hE] at hR
  have RK := Lib.hid hR
  clear hR
  have e0 : IntKind.i64.wrap (4 * min (max k 0) 64) = capS 4 k := by unfold capS; rw [IntKind.wrap_i64]; omega
  by_cases h0 : E = 0
  · obtain ⟨hM, ⟨n, rfl, hn1, hn2, a, rfl, ha, b, rfl, hb, _⟩, hl⟩ := row_ok (hE.symm.trans h0)
    subst h0
    have e1 : max (n : Int) 0 = (n : Int) := by omega
    have e2 : min (n : Int) 64 = (n : Int) := by omega
    rw [e1, e2] at e0
    have HH := Lib.hid h
    have HA := Lib.hid ha
    have HB := Lib.hid hb
    have HL := Lib.hid hl
    have HM := Lib.hid hm
    have HW := Lib.hid hw
    have HC := Lib.hid h.bnd.2
    clear hE hM ha hb hl hx hy hk hn1 h hm hw
    go_enter Try.func84, Try.ntmps84
    go_wp2_with (first
      | (go_at_call 91; (with_reducible refine (RK.out).mono ?_); rintro e w5 ⟨rfl, h5⟩; have H5 := Lib.hid h5; clear h5))
    go_loopw [12] (fun i wr => ∃ k : Nat, k ≤ n ∧ i = .int .i64 (k : Int) ∧ Hid (RStep w F p (swRC m a b cs k) rs (tr ++ swRT a b k) wr ∧ ∀ x ∈ swRC m a b cs k, x < 2 ^ 64)) (fun i _ => n - (intOf i).toNat)
    case atStart => exact ⟨0, Nat.zero_le _, rfl, Lib.hid ⟨by rw [show tr ++ swRT a b 0 = tr from List.append_nil _]; exact .stay HH.out H5.out, HW.out⟩⟩
    case round =>
      obtain ⟨k, hk, rfl, hs⟩ := hrel
      by_cases hlt : k < n
      · have t1 : decide ((k : Int) < (n : Int)) = true := decide_eq_true (by omega)
        have t1' : (k : Int) < (n : Int) := by omega
        obtain ⟨⟨F1, s1, a1, k1⟩, hw1⟩ := hs.out
        have y1 : IntKind.i64.wrap ((a : Int) + (k : Int)) = ((a + k : Nat) : Int) := by rw [IntKind.wrap_i64]; have := HA.out; have := HC.out; omega
        have y2 : IntKind.i64.wrap ((b : Int) + (k : Int)) = ((b + k : Nat) : Int) := by rw [IntKind.wrap_i64]; have := HB.out; have := HC.out; omega
        have SW := Lib.hid (rswap_any a1 hw1 m (a + k) (b + k) HM.out (by rw [swRC_len]; have := HA.out; omega) (by rw [swRC_len]; have := HB.out; omega) (by rw [List.length_append, swRT_len]; have := HL.out; omega))
        have Q1 := Lib.hid (And.intro s1 k1)
        have W1 := Lib.hid hw1
        obtain ⟨ak, hak⟩ : ∃ z, z = a + k := ⟨_, rfl⟩
        obtain ⟨bk, hbk⟩ : ∃ z, z = b + k := ⟨_, rfl⟩
        rw [← hak] at y1 SW
        rw [← hbk] at y2 SW
        have HK := Lib.hid (And.intro hak hbk)
        clear hs s1 a1 k1 hak hbk hw1
        go_wp2_with (first
          | (go_at_call 92; (with_reducible refine (SW.out).mono ?_); rintro e w2 ⟨rfl, hs2⟩; have S2 := Lib.hid hs2; clear hs2))
        go_roundw
        case rel =>
          refine ⟨k + 1, by omega, by go_num, Lib.hid ⟨?_, ?_⟩⟩
          · have := RStep.trans Q1.out.1 Q1.out.2 S2.out
            rw [HK.out.1, HK.out.2, List.append_assoc] at this
            exact this
          · exact swC_w W1.out
        case measure => simp [intOf]; omega
      · obtain rfl : k = n := by omega
        have t1 : decide ((k : Int) < (k : Int)) = false := decide_eq_false (by omega)
        go_wp2
        go_ret
        rw [← HE.out, Int.toNat_natCast, Int.toNat_natCast, Int.toNat_natCast]
        exact RcP.ok hs.out.1
  · have t2 : (E == 0) = false := by rw [beq_eq_false_iff_ne]; exact h0
    have H0 := Lib.hid h0
    clear hE h0 hx hy hk e0
    have fin : ∀ w5, Below w.heap.size w w5 → RcP w F p cs rs tr (rowE cs.length tr.length m 4 x y k) (swRC m x.toNat y.toNat cs k.toNat) (swRT x.toNat y.toNat k.toNat) (.returned (.int .i64 E)) w5 := fun w5 h5 => by rw [← HE.out]; exact RcP.no H0.out h h5
    have FI := Lib.hid fin
    clear fin
    by_cases hk0 : k < 0
    · have hc : capS 4 k = 0 := by unfold capS; omega
      rw [hc] at RK
      clear hc
      go_enter Try.func84, Try.ntmps84
      go_wp2_with (first
        | (go_at_call 91; (with_reducible refine (RK.out).mono ?_); rintro e w5 ⟨rfl, h5⟩; have H5 := Lib.hid h5; clear h5))
      go_loopw [12] (fun i wr => i = .int .i64 0 ∧ Hid (Below w.heap.size w wr)) (fun _ _ => 0)
      case atStart => exact ⟨rfl, H5⟩
      case round =>
        obtain ⟨rfl, hb⟩ := hrel
        by_cases hq : 0 < k
        · have t5 : decide (0 < k) = true := decide_eq_true hq
          go_wp2
          go_ret
          exact FI.out _ hb.out
        · have t5 : decide (0 < k) = false := decide_eq_false hq
          go_wp2
          go_ret
          exact FI.out _ hb.out
    · by_cases hk1 : 64 < k
      · have hc : capS 4 k = 256 := by unfold capS; omega
        rw [hc] at RK
        clear hc
        go_enter Try.func84, Try.ntmps84
        go_wp2_with (first
          | (go_at_call 91; (with_reducible refine (RK.out).mono ?_); rintro e w5 ⟨rfl, h5⟩; have H5 := Lib.hid h5; clear h5))
        go_loopw [12] (fun i wr => i = .int .i64 0 ∧ Hid (Below w.heap.size w wr)) (fun _ _ => 0)
        case atStart => exact ⟨rfl, H5⟩
        case round =>
          obtain ⟨rfl, hb⟩ := hrel
          by_cases hq : 0 < k
          · have t5 : decide (0 < k) = true := decide_eq_true hq
            go_wp2
            go_ret
            exact FI.out _ hb.out
          · have t5 : decide (0 < k) = false := decide_eq_false hq
            go_wp2
            go_ret
            exact FI.out _ hb.out
      · have e1 : IntKind.i64.wrap (4 * k) = capS 4 k := by unfold capS; rw [IntKind.wrap_i64]; omega
        obtain ⟨z, hz⟩ : ∃ z, z = capS 4 k := ⟨_, rfl⟩
        rw [← hz] at RK e1
        clear hz
        go_enter Try.func84, Try.ntmps84
        go_wp2_with (first
          | (go_at_call 91; (with_reducible refine (RK.out).mono ?_); rintro e w5 ⟨rfl, h5⟩; have H5 := Lib.hid h5; clear h5))
        go_loopw [12] (fun i wr => i = .int .i64 0 ∧ Hid (Below w.heap.size w wr)) (fun _ _ => 0)
        case atStart => exact ⟨rfl, H5⟩
        case round =>
          obtain ⟨rfl, hb⟩ := hrel
          by_cases hq : 0 < k
          · have t5 : decide (0 < k) = true := decide_eq_true hq
            go_wp2
            go_ret
            exact FI.out _ hb.out
          · have t5 : decide (0 < k) = false := decide_eq_false hq
            go_wp2
            go_ret
            exact FI.out _ hb.out
end
end Go.Proofs.Ytalnhbjpfnodiaa
